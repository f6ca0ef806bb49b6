/-
  WALKS: the program's disk and the document's side by side in memory: each call of the one leaves the other.
-/
import Derived.Test.YtgkenknplepmeaaRkE
import Derived.Test.YtgkenknplepmeaaSame
namespace Go.Proofs.Ytgkenknplepmeaa
open Go.RowKit

abbrev tDd : TypeId := 38
theorem same_erW (k : Int) (hk : k = 0 ∨ 0 < k) (w : World) : Calls Try.prog 16 #[erV k, .int .i64 k] w fun e w' => e = .returned (.bool true) ∧ w = w' := by
  rcases hk with rfl | hk
  · exact same_nil w
  · rw [show erV k = .iface 96 (.int .i64 k) from if_neg (by omega)]
    exact same_err k hk w
theorem down_any (base p B : Nat) (V : Nat → Value) (D : Dk) (w : World) (h : DkAt w base p B V D) :
    Calls Try.prog 27 #[ptr p] w fun e w' => e = .returned (.bool D.down) ∧ w = w' := by
  have c2 : w.cell? ⟨p, 2, none⟩ = some (.bool D.down) := h.dk.cell 2
  clear h
  go_enter Try.func27, Try.ntmps27
  go_wp2
  go_ret
  exact ⟨rfl, rfl⟩
theorem armD_any (base p B : Nat) (V : Nat → Value) (D : Dk) (n : Int) (w : World) (h : DkAt w base p B V D) :
    Calls Try.prog 24 #[ptr p, .int .i64 n] w fun e w' => e = .returned (.tuple #[]) ∧ DkAt w' base p B V { D with left := n } ∧ Below base w w' ∧ Ty w w' := by
  have c1 : w.cell? ⟨p, 1, none⟩ = some (.int .i64 D.left) := h.dk.cell 1
  have f1 := h.dk.free 1
  have HD := Lib.hid (h.upd n D.down D.next h.nx (by have := h.dk.set 1 (.int .i64 n); exact this) (upd_setp (i := 1) (.int .i64 n)))
  have HT := Lib.hid (Ty.setP (i := 1) h.dk (.int .i64 n))
  have HB := Lib.hid ((Below.refl base w).setCell (p := ⟨p, 1, none⟩) (by simpa using h.hp) (.int .i64 n))
  clear h
  go_enter Try.func24, Try.ntmps24
  go_wp2
  go_end0
  exact ⟨rfl, HD.out, HB.out, HT.out⟩
theorem RkAt.mono {w : World} {base base' q : Nat} {VK VN VW : Value} {R : Rk} (h : RkAt w base q VK VN VW R) (hb : base' ≤ base) : RkAt w base' q VK VN VW R :=
  ⟨Nat.le_trans hb h.hq, h.st, ⟨h.kept.1, h.kept.2.imp id fun ⟨g, cap, cur, h1, h2, h3⟩ => ⟨g, cap, cur, h1, Nat.le_trans hb h2, h3⟩⟩, ⟨h.now.1, h.now.2.imp id fun ⟨g, cap, cur, h1, h2, h3⟩ => ⟨g, cap, cur, h1, Nat.le_trans hb h2, h3⟩⟩, ⟨h.wait.1, h.wait.2.imp id fun ⟨g, cap, cur, h1, h2, h3⟩ => ⟨g, cap, cur, h1, Nat.le_trans hb h2, h3⟩⟩, h.sep⟩
theorem writeQ_any (base q : Nat) (VK VN VW : Value) (R : Rk) (a : Int) (s : ByteArray) (w : World) (h : RkAt w base q VK VN VW R) (hl : -1 ≤ R.fuse ∧ R.fuse ≤ 9223372036854775807) (hn : R.now.length ≤ 120) (hw : R.wait.length ≤ 1000) (hs : s.size ≤ 1000000) :
    Calls Try.prog 19 #[ptr q, .int .i64 a, .string s] w fun e w' => e = .returned (.int .i64 (writeQ R a s).2) ∧ RkE w' base q (writeQ R a s).1 ∧ Below base w w' ∧ TyR w w' := by
  by_cases hc : hasQ R a = false ∨ 340 < s.size
  · refine (writeQ_bad base q VK VN VW R a s w h hn hs hc).mono ?_
    rintro e w' ⟨rfl, rfl⟩
    have hx : writeQ R a s = (R, 1) := by unfold writeQ; rw [if_pos hc]
    rw [hx]
    exact ⟨rfl, ⟨_, _, _, h⟩, Below.refl _ _, TyR.refl _⟩
  · have h1 : hasQ R a = true := by cases hh : hasQ R a with
      | false => exact absurd (.inl hh) hc
      | true => rfl
    have h2 : s.size ≤ 340 := by rcases Nat.lt_or_ge 340 s.size with h | h; exact absurd (.inr h) hc; exact h
    unfold hasQ at h1
    rw [Bool.and_eq_true, decide_eq_true_eq, decide_eq_true_eq] at h1
    obtain ⟨k, rfl⟩ : ∃ k : Nat, a = k := ⟨a.toNat, by omega⟩
    refine (writeQ_good base q k VK VN VW R s w h hl hn hw h2 (by omega)).mono ?_
    rintro e w' ⟨rfl, ⟨VW', h3⟩, h4, h5⟩
    exact ⟨rfl, ⟨_, _, _, h3⟩, h4, h5⟩
/-- What stands in whatever both disks leave. -/
structure Kp (K : World → Prop) : Prop where
  p : ∀ w w', Ty w w' → K w → K w'
  q : ∀ w w', TyR w w' → K w → K w'
theorem kp_true : Kp (fun _ => True) := ⟨fun _ _ _ _ => trivial, fun _ _ _ _ => trivial⟩
theorem kp_box (X : Nat) (cs : Array Value) : Kp (fun w => Blk w X tDd cs) := ⟨fun _ _ h hb => h _ _ _ hb (by decide) (by decide) (by decide), fun _ _ h hb => h _ _ _ hb (by decide) (by decide) (by decide)⟩
/-- Both disks, and what else stands. -/
structure Two (K : World → Prop) (w0 : World) (base p B q : Nat) (D : Dk) (R : Rk) (w : World) : Prop where
  dk : ∃ V, DkAt w base p B V D
  rk : RkE w base q R
  bel : Below base w0 w
  k : K w
section
variable {K : World → Prop} {w0 w : World} {base p B q : Nat} {D : Dk} {R : Rk} {b : Nat}
theorem Two.viaP {w' : World} {D' : Dk} (h : Two K w0 base p B q D R w) (hK : Kp K) (hd : ∃ V, DkAt w' base p B V D') (hb : Below base w w') (hy : Ty w w') : Two K w0 base p B q D' R w' := by
  obtain ⟨VK, VN, VW, hr⟩ := h.rk
  exact ⟨hd, ⟨VK, VN, VW, hr.ty hy⟩, h.bel.trans hb, hK.p _ _ hy h.k⟩
theorem Two.viaQ {w' : World} {R' : Rk} (h : Two K w0 base p B q D R w) (hK : Kp K) (hr : RkE w' base q R') (hb : Below base w w') (hy : TyR w w') : Two K w0 base p B q D R' w' := by
  obtain ⟨V, hd⟩ := h.dk
  exact ⟨⟨V, hd.tyR hy⟩, hr, h.bel.trans hb, hK.q _ _ hy h.k⟩
theorem Two.below {w' : World} (h : Two K w0 base p B q D R w) (hK : Kp K) (hb : Below w.heap.size w w') : Two K w0 base p B q D R w' := by
  obtain ⟨V, hd⟩ := h.dk
  exact h.viaP hK ⟨V, hd.keep (fun g _ hg => hb.block g hg)⟩ (hb.mono (Nat.le_trans hd.hp (Nat.le_of_lt hd.ltp))) (Ty.of_below hb)
theorem Two.n2 (h : Two K w0 base p B q D R w) : D.n ≤ 120 ∧ 1 ≤ D.n := by
  obtain ⟨V, hd⟩ := h.dk
  exact ⟨hd.n2, hd.n1⟩
theorem Two.writeP (h : Two K w0 base p B q D R w) (hK : Kp K) (hg : Go2 D R b) (hb : b ≤ 100) (a : Int) (s : ByteArray) (hs : s.size ≤ 1000000) :
    Calls Try.prog 18 #[ptr p, .int .i64 a, .string s] w fun e w' => e = .returned (erV (writeX D a s).2) ∧ Two K w0 base p B q (writeX D a s).1 R w' := by
  obtain ⟨V, hd⟩ := h.dk
  refine (writex_any base p B V D a s w hd hs hg.rl (fun i hi => by have := hg.slen i hi; omega)).mono ?_
  rintro e w' ⟨rfl, h1, h2, h3⟩
  exact ⟨rfl, h.viaP hK h1 h2 h3⟩
theorem Two.writeQ' (h : Two K w0 base p B q D R w) (hK : Kp K) {D' : Dk} (hg : Go2 D' R b) (hn : D'.n ≤ 120) (hb : b ≤ 100) (a : Int) (s : ByteArray) (hs : s.size ≤ 1000000) :
    Calls Try.prog 19 #[ptr q, .int .i64 a, .string s] w fun e w' => e = .returned (.int .i64 (writeQ R a s).2) ∧ Two K w0 base p B q D (writeQ R a s).1 w' := by
  obtain ⟨VK, VN, VW, hr⟩ := h.rk
  refine (writeQ_any base q VK VN VW R a s w hr hg.rf (by rw [hg.nn]; exact hn) (by have := hg.wlen; omega) hs).mono ?_
  rintro e w' ⟨rfl, h1, h2, h3⟩
  exact ⟨rfl, h.viaQ hK h1 h2 h3⟩
theorem Two.readP (h : Two K w0 base p B q D R w) (hK : Kp K) (a : Int) :
    Calls Try.prog 20 #[ptr p, .int .i64 a] w fun e w' => e = .returned (.tuple #[.string (readR D a).1, erV (readR D a).2]) ∧ Two K w0 base p B q D R w' := by
  obtain ⟨V, hd⟩ := h.dk
  refine (read_any base p B V D a w hd).mono ?_
  rintro e w' ⟨rfl, h1⟩
  exact ⟨rfl, h.below hK h1⟩
theorem Two.readQ' (h : Two K w0 base p B q D R w) {D' : Dk} (hg : Go2 D' R b) (hn : D'.n ≤ 120) (a : Int) :
    Calls Try.prog 21 #[ptr q, .int .i64 a] w fun e w' => e = .returned (.tuple #[.string (readQ R a).1, .int .i64 (readQ R a).2]) ∧ w = w' := by
  obtain ⟨VK, VN, VW, hr⟩ := h.rk
  exact readQ_any base q VK VN VW R a w hr (by rw [hg.nn]; exact hn)
theorem Two.flushP (h : Two K w0 base p B q D R w) (hK : Kp K) (hg : Go2 D R b) (hb : b ≤ 100) :
    Calls Try.prog 22 #[ptr p] w fun e w' => e = .returned (erV (flushR D).2) ∧ Two K w0 base p B q (flushR D).1 R w' := by
  obtain ⟨V, hd⟩ := h.dk
  refine (flush_any base p B V D w hd hg.rl (fun i hi => by have := hg.slen i hi; omega)).mono ?_
  rintro e w' ⟨rfl, h1, h2, h3⟩
  exact ⟨rfl, h.viaP hK h1 h2 h3⟩
theorem Two.flushQ' (h : Two K w0 base p B q D R w) (hK : Kp K) {D' : Dk} (hg : Go2 D' R b) (hn : D'.n ≤ 120) (hn1 : 1 ≤ D'.n) :
    Calls Try.prog 23 #[ptr q] w fun e w' => e = .returned (.int .i64 (flushQ R).2) ∧ Two K w0 base p B q D (flushQ R).1 w' := by
  obtain ⟨VK, VN, VW, hr⟩ := h.rk
  refine (flushQ_any base q VK VN VW R w hr hg.rf (by rw [hg.nn]; exact hn) (by rw [hg.nn]; omega)).mono ?_
  rintro e w' ⟨rfl, h1, h2, h3⟩
  exact ⟨rfl, h.viaQ hK h1 h2 h3⟩
theorem Two.restartP (h : Two K w0 base p B q D R w) (hK : Kp K) (hg : Go2 D R b) (hb : b ≤ 100) (keep : Nat) (hk : keep < 2 ^ 64) :
    Calls Try.prog 25 #[ptr p, .int .u64 keep] w fun e w' => e = .returned (.tuple #[]) ∧ Two K w0 base p B q (restartR keep D) R w' := by
  obtain ⟨V, hd⟩ := h.dk
  refine (restart_any base p B V D keep w hd hk (fun i hi => by have := hg.slen i hi; omega)).mono ?_
  rintro e w' ⟨rfl, h1, h2, h3⟩
  exact ⟨rfl, h.viaP hK h1 h2 h3⟩
theorem Two.restartQ' (h : Two K w0 base p B q D R w) (hK : Kp K) {D' : Dk} (hg : Go2 D' R b) (hn : D'.n ≤ 120) (hn1 : 1 ≤ D'.n) (hb : b ≤ 100) (keep : Nat) (hk : keep < 2 ^ 64) :
    Calls Try.prog 26 #[ptr q, .int .u64 keep] w fun e w' => e = .returned (.tuple #[]) ∧ Two K w0 base p B q D (restartQ keep R) w' := by
  obtain ⟨VK, VN, VW, hr⟩ := h.rk
  refine (restartQ_any base q keep VK VN VW R w hr hk (by rw [hg.nk]; exact hn) (by rw [hg.nk]; omega) (by have := hg.wlen; omega) (fun x hx => by rw [hg.nk]; exact hg.wat x hx)).mono ?_
  rintro e w' ⟨rfl, h1, h2, h3⟩
  exact ⟨rfl, h.viaQ hK h1 h2 h3⟩
theorem Two.armP (h : Two K w0 base p B q D R w) (hK : Kp K) (n : Int) :
    Calls Try.prog 24 #[ptr p, .int .i64 n] w fun e w' => e = .returned (.tuple #[]) ∧ Two K w0 base p B q { D with left := n } R w' := by
  obtain ⟨V, hd⟩ := h.dk
  refine (armD_any base p B V D n w hd).mono ?_
  rintro e w' ⟨rfl, h1, h2, h3⟩
  exact ⟨rfl, h.viaP hK ⟨V, h1⟩ h2 h3⟩
theorem Two.fuse (h : Two K w0 base p B q D R w) (hK : Kp K) (n : Int) : w.cell? ⟨q, 3, none⟩ = some (.int .i64 R.fuse) ∧ w.frozen? ⟨q, 3, none⟩ = false ∧ Two K w0 base p B q D { R with fuse := n } (w.setCell ⟨q, 3, none⟩ (.int .i64 n)) := by
  obtain ⟨VK, VN, VW, hr⟩ := h.rk
  refine ⟨hr.st.cell 3, hr.st.free 3, h.viaQ hK ⟨VK, VN, VW, ?_⟩ ((Below.refl base w).setCell (p := ⟨q, 3, none⟩) (by simpa using hr.hq) _) (TyR.set hr.st (.inl rfl) _)⟩
  exact hr.struct n R.down (hr.st.set 3 (.int .i64 n)) (upd_setp _)
theorem Two.downP (h : Two K w0 base p B q D R w) : Calls Try.prog 27 #[ptr p] w fun e w' => e = .returned (.bool D.down) ∧ w = w' := by
  obtain ⟨V, hd⟩ := h.dk
  exact down_any base p B V D w hd
theorem Two.downQ (h : Two K w0 base p B q D R w) : w.cell? ⟨q, 4, none⟩ = some (.bool R.down) := by
  obtain ⟨VK, VN, VW, hr⟩ := h.rk
  exact hr.st.cell 4
end
end Go.Proofs.Ytgkenknplepmeaa
