/-
  WALK: store.writeRows, over rows that may be.
-/
import Derived.Test.YtgkenknplepmeaaWpD
namespace Go.Proofs.Ytgkenknplepmeaa
open Go.RowKit Go.Shelf Go.Sort
attribute [local go_sem] Oper.semAt_some

abbrev tPd : TypeId := 25
abbrev tIn : TypeId := 3
abbrev tEr : TypeId := 27
def WrOut (D : Dk) (a : Nat) (rows : List Ch) : Value := if (wrL D (1 + a * 21) (chunksR (rowsR rows))).2 = 0 then .tuple #[.int .i64 ((rowsR rows).size : Int), .nilIface] else .tuple #[.int .i64 0, erV (wrL D (1 + a * 21) (chunksR (rowsR rows))).2]

theorem sumR_le (l : List ByteArray) (h : ∀ s ∈ l, s.size ≤ 340) : sumR l ≤ l.length * 340 := by
  have key : ∀ (l : List ByteArray) (n : Nat), (∀ s ∈ l, s.size ≤ 340) → l.foldl (fun n s => n + s.size) n ≤ n + l.length * 340 := by
    intro l
    induction l with
    | nil => intro n _; simp
    | cons s r ih =>
      intro n h
      have h1 := ih (n + s.size) fun x hx => h x (by simp [hx])
      have h2 := h s (by simp)
      rw [List.foldl_cons, List.length_cons, Nat.succ_mul]
      omega
  have := key l 0 h
  unfold sumR
  omega
theorem fr_put {base : Nat} {w0 : World} (hn : base ≤ w0.heap.size) (W : World) (l : Nat) (o o' : Obj) (hl : w0.heap.size ≤ l) (h : W.heap[l]? = some o) (hc : o.isCells = false) (_ : o.isWalk = false) : Fr base W (W.putObj l o') := by
  have hg := grownBy_putObj' W l o'
  have hk := blk_own hg (fun r e => by cases e; exact ⟨o, h, hc⟩)
  exact ⟨hg.size, fun k hk => hg.block k (by have := (Array.getElem?_eq_some_iff.1 h).1; omega) (fun e => by injection e with e; omega), fun k cs hb => hk _ _ _ hb, fun k cs hb => hk _ _ _ hb⟩
structure WrI (D : Dk) (w : World) (base p B at0 : Nat) (pre : List Pc) (W : World) : Prop where
  ok : (wrN D at0 (pvals pre)).2 = 0
  dk : ∃ V, DkAt W base p B V (wrN D at0 (pvals pre)).1
  b0 : Boxed W w.heap.size tPd (ptr p)
  b1 : Boxed W (w.heap.size + 1) tIn (.int .i64 0)
  b2 : Boxed W (w.heap.size + 1 + 1) tEr .nilIface
  b3 : Boxed W (w.heap.size + 1 + 1 + 1) tIn (.int .i64 ((at0 + pre.length : Nat) : Int))
  b4 : Boxed W (w.heap.size + 1 + 1 + 1 + 1) tIn (.int .i64 ((sumR (pvals pre) : Nat) : Int))
  bel : Below base w W
  ty : Ty w W
structure WrX (D : Dk) (w : World) (base p B at0 : Nat) (c : Code) (pre : List Pc) (W : World) : Prop where
  ret : c = .ret
  no : (wrN D at0 (pvals pre)).2 ≠ 0
  dk : ∃ V, DkAt W base p B V (wrN D at0 (pvals pre)).1
  b1 : Boxed W (w.heap.size + 1) tIn (.int .i64 0)
  b2 : Boxed W (w.heap.size + 1 + 1) tEr (erV (wrN D at0 (pvals pre)).2)
  bel : Below base w W
  ty : Ty w W
theorem wri_own {D : Dk} {w : World} {base p B at0 B0 : Nat} (h1 : base ≤ w.heap.size) (h2 : base ≤ B0) : OwnFrom B0 (WrI D w base p B at0) := fun pre X Y row hs hg hr => by
  have hk := blk_own hg (fun r e => (hr r e).2)
  obtain ⟨V, hd⟩ := hs.dk
  exact ⟨hs.ok, ⟨V, hd.nc hk⟩, hk _ _ _ hs.b0, hk _ _ _ hs.b1, hk _ _ _ hs.b2, hk _ _ _ hs.b3, hk _ _ _ hs.b4, ownFrom_below (β := Unit) h1 h2 () X Y row hs.bel hg hr, fun g t cs hb h1 h2 h3 => hk _ _ _ (hs.ty g t cs hb h1 h2 h3)⟩
theorem wrx_own {D : Dk} {w : World} {base p B at0 B0 : Nat} (h1 : base ≤ w.heap.size) (h2 : base ≤ B0) (c : Code) : OwnFrom B0 (WrX D w base p B at0 c) := fun pre X Y row hs hg hr => by
  have hk := blk_own hg (fun r e => (hr r e).2)
  obtain ⟨V, hd⟩ := hs.dk
  exact ⟨hs.ret, hs.no, ⟨V, hd.nc hk⟩, hk _ _ _ hs.b1, hk _ _ _ hs.b2, ownFrom_below (β := Unit) h1 h2 () X Y row hs.bel hg hr, fun g t cs hb h1 h2 h3 => hk _ _ _ (hs.ty g t cs hb h1 h2 h3)⟩

set_option maxRecDepth 100000 in
set_option maxHeartbeats 4000000 in
theorem writeRows_in (n : Nat) (hn : 9 ≤ n) (base p B a : Nat) (V : Nat → Value) (D : Dk) (A : Option Addr) (len cap : Nat) (rows : List Ch) (w : World) (hd : DkAt w base p B V D) (hkp : KpC w base A len cap rows) (ha : a ≤ 1) (hDn : 44 ≤ D.n)
    (hS : (rowsR rows).size ≤ 7140) (hlen : len ≤ 1000) (hck : ∀ c ∈ rows, ckR c = 0) (hw : WOk D 22) :
    CallsIn Fence.wide n Try.prog 86 #[ptr p, .int .i64 a, .slice A len cap] w fun e w' => e = .returned (WrOut D a rows) ∧ (∃ V', DkAt w' base p B V' (wrL D (1 + a * 21) (chunksR (rowsR rows))).1) ∧ Below base w w' ∧ Ty w w' := by
  have HA := Lib.hid (fun W => areaAt_any a W ha)
  obtain ⟨at0, hat⟩ : ∃ at0, 1 + a * 21 = at0 := ⟨_, rfl⟩
  rw [hat] at HA ⊢
  have hat2 : at0 ≤ 22 := by omega
  have hat1 : 1 ≤ at0 := by omega
  have HD := Lib.hid hd
  have HKP := Lib.hid hkp
  have HCK := Lib.hid hck
  have hbw : base ≤ w.heap.size := Nat.le_trans hd.hp (Nat.le_of_lt hd.ltp)
  clear hd hkp hck
  refine callsIn_of_wp_marks Try.func86 rfl trivial ?_ rfl
  simp only [Try.ntmps86, List.size_toArray, List.length_cons, List.length_nil, Nat.reduceAdd, Nat.reduceSub, Array.replicate_succ, Array.replicate_zero, List.push_toArray, List.append_toArray, List.nil_append, List.cons_append]
  gi_wp2
  refine ⟨trivial, fun _ => by omega, (callsIn_wide.2 (HA.out _)).mono ?_⟩
  rintro e w1 ⟨rfl, rfl⟩
  gi_wp2
  refine ⟨trivial, fun _ => by omega, (pieces_in _ _ _ _ _).mono ?_⟩
  rintro e w1 ⟨rfl, rfl⟩
  gi_wp2
  have hb0 : Below w.heap.size w ((((((w.alloc (.cells #[ptr p] tPd)).alloc (.cells #[.int .i64 0] tIn)).alloc (.cells #[.nilIface] tEr)).alloc (.cells #[.int .i64 at0] tIn)).alloc (.cells #[.int .i64 0] tIn)).alloc (.cells #[.slice A len cap] tSl)) := ((((((Below.refl _ w).alloc (Nat.le_refl _) _).alloc (by simp) _).alloc (by simp; omega) _).alloc (by simp; omega) _).alloc (by simp; omega) _).alloc (by simp; omega) _
  have hs0 : ((((((w.alloc (.cells #[ptr p] tPd)).alloc (.cells #[.int .i64 0] tIn)).alloc (.cells #[.nilIface] tEr)).alloc (.cells #[.int .i64 at0] tIn)).alloc (.cells #[.int .i64 0] tIn)).alloc (.cells #[.slice A len cap] tSl)).heap.size = w.heap.size + 1 + 1 + 1 + 1 + 1 + 1 := by simp
  have k0 := ((((Boxed.new w tPd (ptr p)).alloc (.cells #[.int .i64 0] tIn)).alloc (.cells #[.nilIface] tEr)).alloc (.cells #[.int .i64 at0] tIn)).alloc (.cells #[.int .i64 0] tIn) |>.alloc (.cells #[.slice A len cap] tSl)
  have k1 := ((((Boxed.new (w.alloc (.cells #[ptr p] tPd)) tIn (.int .i64 0)).alloc (.cells #[.nilIface] tEr)).alloc (.cells #[.int .i64 at0] tIn)).alloc (.cells #[.int .i64 0] tIn)).alloc (.cells #[.slice A len cap] tSl)
  have k2 := (((Boxed.new ((w.alloc (.cells #[ptr p] tPd)).alloc (.cells #[.int .i64 0] tIn)) tEr .nilIface).alloc (.cells #[.int .i64 at0] tIn)).alloc (.cells #[.int .i64 0] tIn)).alloc (.cells #[.slice A len cap] tSl)
  have k3 := ((Boxed.new (((w.alloc (.cells #[ptr p] tPd)).alloc (.cells #[.int .i64 0] tIn)).alloc (.cells #[.nilIface] tEr)) tIn (.int .i64 at0)).alloc (.cells #[.int .i64 0] tIn)).alloc (.cells #[.slice A len cap] tSl)
  have k4 := (Boxed.new ((((w.alloc (.cells #[ptr p] tPd)).alloc (.cells #[.int .i64 0] tIn)).alloc (.cells #[.nilIface] tEr)).alloc (.cells #[.int .i64 at0] tIn)) tIn (.int .i64 0)).alloc (.cells #[.slice A len cap] tSl)
  have k5 := Boxed.new (((((w.alloc (.cells #[ptr p] tPd)).alloc (.cells #[.int .i64 0] tIn)).alloc (.cells #[.nilIface] tEr)).alloc (.cells #[.int .i64 at0] tIn)).alloc (.cells #[.int .i64 0] tIn)) tSl (.slice A len cap)
  simp only [World.size_alloc] at k0 k1 k2 k3 k4 k5
  generalize ((((((w.alloc (.cells #[ptr p] tPd)).alloc (.cells #[.int .i64 0] tIn)).alloc (.cells #[.nilIface] tEr)).alloc (.cells #[.int .i64 at0] tIn)).alloc (.cells #[.int .i64 0] tIn)).alloc (.cells #[.slice A len cap] tSl)) = W0 at *
  have hst0 : PcSt base (w.heap.size + 1 + 1 + 1 + 1 + 1) A len cap rows W0 := ⟨k5, HKP.out.keep (Fr.of_below hb0 hbw), by omega⟩
  have hI0 : WrI D w base p B at0 [] W0 := ⟨rfl, ⟨V, HD.out.keep (fun k _ hk => hb0.block k hk)⟩, k0, k1, k2, k3, k4, hb0.mono hbw, Ty.of_below hb0⟩
  refine wpIn_rangeFunc_ownH rfl (by omega) (gf := 115) (lb := #[.pointer (some ⟨w.heap.size + 1 + 1 + 1 + 1 + 1, 0, none⟩)]) rfl trivial (enters_of Try.func115 (by kernel_rfl) rfl)
    (pieces_stops (n - 1) (by omega) (w.heap.size + 1 + 1 + 1 + 1 + 1) base A len cap rows hS hlen HCK.out W0 hst0) (fun h k => h.trans k) (fr_put (by omega)) (Below.refl _ _) (fun _ => rfl)
    (WrI D w base p B at0) (WrX D w base p B at0) (wri_own hbw (by omega)) (fun c => wrx_own hbw (by omega) c) hI0
    (fun x a' _ => a' = { tmps := #[ptr p, .int .i64 a, .slice A len cap, .pointer (some ⟨w.heap.size, 0, none⟩), undef, undef, .pointer (some ⟨w.heap.size + 1, 0, none⟩), .pointer (some ⟨w.heap.size + 1 + 1, 0, none⟩), .pointer (some ⟨w.heap.size + 1 + 1 + 1, 0, none⟩), .pointer (some ⟨w.heap.size + 1 + 1 + 1 + 1, 0, none⟩), .string x.1, undef, undef, .int .i64 a, .int .i64 at0, .slice A len cap, .func (.func 115) #[] #[.pointer (some ⟨w.heap.size + 1 + 1 + 1 + 1 + 1, 0, none⟩)], .string x.1, undef, undef, undef, undef, undef, undef, undef, undef, undef, undef, undef, undef, undef, undef, undef, undef, undef, undef, undef], defers := [] })
    (fun x a' => fun _ X Y row hs hg hr => hs)
    ?assign ?body ?done ?stop
  case assign =>
    rintro l pre x W K hi hK
    have HH := Lib.hid hi
    clear hi
    gi_wp2
    exact hK _ _ (KeepsFrom.refl _ _) (Fr.refl _ _) HH.out rfl
  case body =>
    rintro l pre x a' W hl hr hi rfl hlt
    obtain ⟨V1, hd1⟩ := hi.dk
    have hwk : WOk (wrN D at0 (pvals pre)).1 (21 - pre.length + 1) := wrN_wok (pvals pre) D at0 (21 - pre.length + 1) (by rw [pvals_len, show pre.length + (21 - pre.length + 1) = 22 by omega]; exact hw) (pvals_small pre) (by rw [pvals_len]; omega) hi.ok
    have HW := Lib.hid (writez_any base p B V1 _ ((at0 + pre.length : Nat) : Int) x.1 W hd1 (by have := x.2; omega) hwk.left (fun i h => by have := hwk.len i h; have := hwk.next; omega))
    have hsn : wrN D at0 (pvals (pre ++ [x])) = writeR (wrN D at0 (pvals pre)).1 ((at0 + pre.length : Nat) : Int) x.1 := by rw [pvals_snoc, wrN_snoc hi.ok, pvals_len]
    rw [writeX_eq hwk, ← hsn] at HW
    have hx340 := x.2
    have hb3 := hi.b3
    have hb4 := hi.b4
    obtain ⟨q, hq⟩ : ∃ q : Nat, at0 + pre.length = q := ⟨_, rfl⟩
    obtain ⟨z, hz⟩ : ∃ z : Nat, sumR (pvals pre) = z := ⟨_, rfl⟩
    have hz2 : z ≤ 7140 := by have := sumR_le (pvals pre) (pvals_small pre); rw [pvals_len, hz] at this; omega
    rw [hq] at HW hb3
    rw [hz] at hb4
    have hq2 : q ≤ 44 := by omega
    have hql : at0 + (pre ++ [x]).length = q + 1 := by rw [List.length_append, List.length_singleton]; omega
    have hzl : sumR (pvals (pre ++ [x])) = z + x.1.size := by rw [pvals_snoc, sumR_snoc, hz]
    have e0 := hi.b0.cell
    have e3 := hb3.cell
    have HI := Lib.hid hi
    have HQL := Lib.hid hql
    have HZL := Lib.hid hzl
    clear hwk hsn hd1 hi hq hz hql hzl
    by_cases he : (wrN D at0 (pvals (pre ++ [x]))).2 = 0
    · have HE := Lib.hid he
      rw [he] at HW
      rw [show erV 0 = .nilIface from rfl] at HW
      clear he
      gi_wp2
      refine ⟨trivial, fun _ => by omega, (CallsIn.inRound l (callsIn_wide.2 HW.out)).mono ?_⟩
      rintro e W3 ⟨rfl, hd3, hb3', hy3⟩
      have q0 : Boxed W3 w.heap.size tPd (ptr p) := hy3.1 _ _ _ HI.out.b0 (by decide) (by decide) (by decide)
      have q1 : Boxed W3 (w.heap.size + 1) tIn (.int .i64 0) := hy3.1 _ _ _ HI.out.b1 (by decide) (by decide) (by decide)
      have q2 : Boxed W3 (w.heap.size + 1 + 1) tEr .nilIface := hy3.1 _ _ _ HI.out.b2 (by decide) (by decide) (by decide)
      have q3 : Boxed W3 (w.heap.size + 1 + 1 + 1) tIn (.int .i64 q) := hy3.1 _ _ _ hb3 (by decide) (by decide) (by decide)
      have q4 : Boxed W3 (w.heap.size + 1 + 1 + 1 + 1) tIn (.int .i64 z) := hy3.1 _ _ _ hb4 (by decide) (by decide) (by decide)
      have e3' := q3.cell
      have f3' := q3.frozen
      have q4' := q4.other (B' := w.heap.size + 1 + 1 + 1) (by omega) (.int .i64 ((q : Int) + 1))
      have e4' := q4'.cell
      have f4' := q4'.frozen
      have HY3 := Lib.hid hy3
      have HB3 := Lib.hid hb3'
      have HD3 := Lib.hid hd3
      clear hd3 hb3' hy3 HW
      gi_wp2
      have hd5 : ∃ V', DkAt ((W3.setCell ⟨w.heap.size + 1 + 1 + 1, 0, none⟩ (.int .i64 ((q : Int) + 1))).setCell ⟨w.heap.size + 1 + 1 + 1 + 1, 0, none⟩ (.int .i64 ((z : Int) + (x.1.size : Int)))) base p B V' (wrN D at0 (pvals (pre ++ [x]))).1 := by
        obtain ⟨V', h⟩ := HD3.out
        exact ⟨V', (h.setG q3 (by decide) (by decide) (by decide) 0 _).setG q4' (by decide) (by decide) (by decide) 0 _⟩
      refine ⟨((HY3.out.2.trans (KeepsOthers.setCell _ _ _)).trans (KeepsOthers.setCell _ _ _)).from _, ((Fr.of_ty HY3.out.1 HB3.out).setNew q3 (by decide) (by decide) (by omega) _).setNew q4' (by decide) (by decide) (by omega) _, ?_⟩
      refine ⟨HE.out, hd5, (q0.other (by omega) _).other (by omega) _, (q1.other (by omega) _).other (by omega) _, (q2.other (by omega) _).other (by omega) _, ?_, ?_, ((HI.out.bel.trans HB3.out).setCell (p := ⟨w.heap.size + 1 + 1 + 1, 0, none⟩) (by show base ≤ w.heap.size + 1 + 1 + 1; omega) _).setCell (p := ⟨w.heap.size + 1 + 1 + 1 + 1, 0, none⟩) (by show base ≤ w.heap.size + 1 + 1 + 1 + 1; omega) _, ((HI.out.ty.trans HY3.out.1).setNew (by omega) _).setNew (by omega) _⟩
      · rw [HQL.out]; exact (q3.set _).other (by omega) _
      · rw [HZL.out]; exact q4'.set _
    · have HE := Lib.hid he
      have herr : erV (wrN D at0 (pvals (pre ++ [x]))).2 = .iface 96 (.int .i64 (wrN D at0 (pvals (pre ++ [x]))).2) := by unfold erV; rw [if_neg he]
      have HER := Lib.hid herr
      rw [herr] at HW
      clear he herr
      gi_wp2
      refine ⟨trivial, fun _ => by omega, (CallsIn.inRound l (callsIn_wide.2 HW.out)).mono ?_⟩
      rintro e W3 ⟨rfl, hd3, hb3', hy3⟩
      have q1 : Boxed W3 (w.heap.size + 1) tIn (.int .i64 0) := hy3.1 _ _ _ HI.out.b1 (by decide) (by decide) (by decide)
      have q2 : Boxed W3 (w.heap.size + 1 + 1) tEr .nilIface := hy3.1 _ _ _ HI.out.b2 (by decide) (by decide) (by decide)
      have e1' := q1.cell
      have f1' := q1.frozen
      have q2' := q2.other (B' := w.heap.size + 1) (by omega) (.int .i64 0)
      have e2' := q2'.cell
      have f2' := q2'.frozen
      have HY3 := Lib.hid hy3
      have HB3 := Lib.hid hb3'
      have HD3 := Lib.hid hd3
      clear hd3 hb3' hy3 HW
      gi_wp2
      have hd5 : ∃ V', DkAt ((W3.setCell ⟨w.heap.size + 1, 0, none⟩ (.int .i64 0)).setCell ⟨w.heap.size + 1 + 1, 0, none⟩ (.iface 96 (.int .i64 (wrN D at0 (pvals (pre ++ [x]))).2))) base p B V' (wrN D at0 (pvals (pre ++ [x]))).1 := by
        obtain ⟨V', h⟩ := HD3.out
        exact ⟨V', (h.setG q1 (by decide) (by decide) (by decide) 0 _).setG q2' (by decide) (by decide) (by decide) 0 _⟩
      exact ⟨((HY3.out.2.trans (KeepsOthers.setCell _ _ _)).trans (KeepsOthers.setCell _ _ _)).from _, ⟨rfl, HE.out, hd5, (q1.set _).other (by omega) _, by rw [HER.out]; exact q2'.set _, ((HI.out.bel.trans HB3.out).setCell (p := ⟨w.heap.size + 1, 0, none⟩) (by show base ≤ w.heap.size + 1; omega) _).setCell (p := ⟨w.heap.size + 1 + 1, 0, none⟩) (by show base ≤ w.heap.size + 1 + 1; omega) _, ((HI.out.ty.trans HY3.out.1).setNew (by omega) _).setNew (by omega) _⟩⟩
  case done =>
    rintro Dd ys W hD hys hi hK
    have hys' : pvals ys = chunksR (rowsR rows) := hys
    obtain ⟨V1, hd1⟩ := hi.dk
    have hyl : (pvals ys).length ≤ 21 := by rw [hys', chunksR_len]; omega
    have hwk : WOk (wrN D at0 (pvals ys)).1 1 := wrN_wok (pvals ys) D at0 1 ⟨hw.left, by have := hw.next; omega, hw.bit, hw.len⟩ (pvals_small ys) (by omega) hi.ok
    have HF := Lib.hid (flushz_any base p B V1 _ W hd1 hwk.left (fun i h => by have := hwk.len i h; have := hwk.next; omega))
    have hE : wrL D at0 (chunksR (rowsR rows)) = flushR (wrN D at0 (pvals ys)).1 := by rw [wrL_N, ← hys', if_neg (by rw [hi.ok]; simp)]
    rw [← hE] at HF
    have hb4 := hi.b4
    rw [hys', sumR_chunks] at hb4
    obtain ⟨z, hz⟩ : ∃ z, (rowsR rows).size = z := ⟨_, rfl⟩
    rw [hz] at hb4
    have e0 := hi.b0.cell
    have HI := Lib.hid hi
    have HO := Lib.hid (show WrOut D a rows = if (wrL D at0 (chunksR (rowsR rows))).2 = 0 then .tuple #[.int .i64 (z : Int), .nilIface] else .tuple #[.int .i64 0, erV (wrL D at0 (chunksR (rowsR rows))).2] by unfold WrOut; rw [hat, hz])
    clear hys hys' hd1 hwk hE hi hyl
    obtain ⟨R, hRR⟩ : ∃ R, wrL D at0 (chunksR (rowsR rows)) = R := ⟨_, rfl⟩
    rw [hRR] at HF HO
    have HRR := Lib.hid hRR
    clear hRR
    by_cases he : R.2 = 0
    · rw [he] at HF
      rw [if_pos he] at HO
      rw [show erV 0 = .nilIface from rfl] at HF
      clear he
      gi_wp2
      refine ⟨trivial, fun _ => by omega, (callsIn_wide.2 HF.out).mono ?_⟩
      rintro e W3 ⟨rfl, hd3, hb3', hy3⟩
      have q1 : Boxed W3 (w.heap.size + 1) tIn (.int .i64 0) := hy3.1 _ _ _ HI.out.b1 (by decide) (by decide) (by decide)
      have q2 : Boxed W3 (w.heap.size + 1 + 1) tEr .nilIface := hy3.1 _ _ _ HI.out.b2 (by decide) (by decide) (by decide)
      have q4 : Boxed W3 (w.heap.size + 1 + 1 + 1 + 1) tIn (.int .i64 z) := hy3.1 _ _ _ hb4 (by decide) (by decide) (by decide)
      have hK3 := hy3.2.same Dd _ hK rfl
      have e4 := q4.cell
      have e1 := q1.cell
      have f1 := q1.frozen
      have q2' := q2.other (B' := w.heap.size + 1) (by omega) (.int .i64 z)
      have e2 := q2'.cell
      have f2 := q2'.frozen
      have HY3 := Lib.hid hy3
      have HB3 := Lib.hid hb3'
      have HD3 := Lib.hid hd3
      clear hd3 hb3' hy3 HF
      gi_wp2
      have hK' := (KeepsOthers.setCell (W3.setCell ⟨w.heap.size + 1, 0, none⟩ (.int .i64 z)) ⟨w.heap.size + 1 + 1, 0, none⟩ .nilIface).same Dd _ ((KeepsOthers.setCell W3 ⟨w.heap.size + 1, 0, none⟩ (.int .i64 z)).same Dd _ hK3 rfl) rfl
      refine ⟨by simp, .inl ⟨_, _, rfl, run_takeDeferred hK', ?_⟩⟩
      have hr : ∀ r, some Dd = some r → ∃ o : Obj, ((W3.setCell ⟨w.heap.size + 1, 0, none⟩ (.int .i64 z)).setCell ⟨w.heap.size + 1 + 1, 0, none⟩ .nilIface).heap[r]? = some o ∧ o.isCells = false := fun r e => by cases e; exact ⟨_, hK', rfl⟩
      have hk := blk_own (grownBy_putObj' _ Dd (.deferred none)) hr
      have hc4 : World.cell? _ ⟨w.heap.size + 1, 0, none⟩ = _ := (hk _ _ _ ((q1.set (.int .i64 z)).other (B' := w.heap.size + 1 + 1) (by omega) .nilIface)).cell 0
      have hc5 : World.cell? _ ⟨w.heap.size + 1 + 1, 0, none⟩ = _ := (hk _ _ _ (q2'.set .nilIface)).cell 0
      refine ⟨.tuple #[.int .i64 z, .nilIface], ?_, by rw [HO.out], ?_, ?_, ?_⟩
      · simp [results, Try.f86, go_sem, hc4, hc5]
      · obtain ⟨V', h⟩ := HD3.out
        rw [HRR.out]
        exact ⟨V', ((h.setG q1 (by decide) (by decide) (by decide) 0 _).setG q2' (by decide) (by decide) (by decide) 0 _).nc hk⟩
      · exact (((HI.out.bel.trans HB3.out).setCell (p := ⟨w.heap.size + 1, 0, none⟩) (by show base ≤ w.heap.size + 1; omega) _).setCell (p := ⟨w.heap.size + 1 + 1, 0, none⟩) (by show base ≤ w.heap.size + 1 + 1; omega) _).trans (belowK_b (w := w) hbw _ Dd _ _ (by omega) hK' rfl rfl)
      · exact fun g t cs hb h1 h2 h3 => hk _ _ _ ((((HI.out.ty.trans HY3.out.1).setNew (b := w.heap.size + 1) (i := 0) (by omega) _).setNew (b := w.heap.size + 1 + 1) (i := 0) (by omega) _) g t cs hb h1 h2 h3)
    · have herr : erV R.2 = .iface 96 (.int .i64 R.2) := by unfold erV; rw [if_neg he]
      rw [if_neg he] at HO
      have HER := Lib.hid herr
      rw [herr] at HF
      clear he herr
      gi_wp2
      refine ⟨trivial, fun _ => by omega, (callsIn_wide.2 HF.out).mono ?_⟩
      rintro e W3 ⟨rfl, hd3, hb3', hy3⟩
      have q1 : Boxed W3 (w.heap.size + 1) tIn (.int .i64 0) := hy3.1 _ _ _ HI.out.b1 (by decide) (by decide) (by decide)
      have q2 : Boxed W3 (w.heap.size + 1 + 1) tEr .nilIface := hy3.1 _ _ _ HI.out.b2 (by decide) (by decide) (by decide)
      have hK3 := hy3.2.same Dd _ hK rfl
      have e1 := q1.cell
      have f1 := q1.frozen
      have q2' := q2.other (B' := w.heap.size + 1) (by omega) (.int .i64 0)
      have e2 := q2'.cell
      have f2 := q2'.frozen
      have HY3 := Lib.hid hy3
      have HB3 := Lib.hid hb3'
      have HD3 := Lib.hid hd3
      clear hd3 hb3' hy3 HF
      gi_wp2
      have hK' := (KeepsOthers.setCell (W3.setCell ⟨w.heap.size + 1, 0, none⟩ (.int .i64 0)) ⟨w.heap.size + 1 + 1, 0, none⟩ (.iface 96 (.int .i64 R.2))).same Dd _ ((KeepsOthers.setCell W3 ⟨w.heap.size + 1, 0, none⟩ (.int .i64 0)).same Dd _ hK3 rfl) rfl
      refine ⟨by simp, .inl ⟨_, _, rfl, run_takeDeferred hK', ?_⟩⟩
      have hr : ∀ r, some Dd = some r → ∃ o : Obj, ((W3.setCell ⟨w.heap.size + 1, 0, none⟩ (.int .i64 0)).setCell ⟨w.heap.size + 1 + 1, 0, none⟩ (.iface 96 (.int .i64 R.2))).heap[r]? = some o ∧ o.isCells = false := fun r e => by cases e; exact ⟨_, hK', rfl⟩
      have hk := blk_own (grownBy_putObj' _ Dd (.deferred none)) hr
      have hc4 : World.cell? _ ⟨w.heap.size + 1, 0, none⟩ = _ := (hk _ _ _ ((q1.set (.int .i64 0)).other (B' := w.heap.size + 1 + 1) (by omega) (.iface 96 (.int .i64 R.2)))).cell 0
      have hc5 : World.cell? _ ⟨w.heap.size + 1 + 1, 0, none⟩ = _ := (hk _ _ _ (q2'.set (.iface 96 (.int .i64 R.2)))).cell 0
      refine ⟨.tuple #[.int .i64 0, .iface 96 (.int .i64 R.2)], ?_, by rw [HO.out, HER.out], ?_, ?_, ?_⟩
      · simp [results, Try.f86, go_sem, hc4, hc5]
      · obtain ⟨V', h⟩ := HD3.out
        rw [HRR.out]
        exact ⟨V', ((h.setG q1 (by decide) (by decide) (by decide) 0 _).setG q2' (by decide) (by decide) (by decide) 0 _).nc hk⟩
      · exact (((HI.out.bel.trans HB3.out).setCell (p := ⟨w.heap.size + 1, 0, none⟩) (by show base ≤ w.heap.size + 1; omega) _).setCell (p := ⟨w.heap.size + 1 + 1, 0, none⟩) (by show base ≤ w.heap.size + 1 + 1; omega) _).trans (belowK_b (w := w) hbw _ Dd _ _ (by omega) hK' rfl rfl)
      · exact fun g t cs hb h1 h2 h3 => hk _ _ _ ((((HI.out.ty.trans HY3.out.1).setNew (b := w.heap.size + 1) (i := 0) (by omega) _).setNew (b := w.heap.size + 1 + 1) (i := 0) (by omega) _) g t cs hb h1 h2 h3)
  case stop =>
    rintro Dd c pre W hD ⟨k, hk⟩ hx hK
    obtain rfl := hx.ret
    have hE : wrL D at0 (chunksR (rowsR rows)) = wrN D at0 (pvals pre) := by
      have e : chunksR (rowsR rows) = pvals pre ++ (chunksR (rowsR rows)).drop k := by rw [hk, List.take_append_drop]
      rw [wrL_N, e, wrN_stop hx.no, if_pos hx.no]
    have HX := Lib.hid hx
    have HO := Lib.hid (show WrOut D a rows = .tuple #[.int .i64 0, erV (wrN D at0 (pvals pre)).2] by unfold WrOut; rw [hat, hE, if_neg hx.no])
    have HE := Lib.hid hE
    have hc1 := hx.b1
    have hc2 := hx.b2
    clear hx hE hk
    gi_wp2
    refine ⟨by simp, .inl ⟨_, _, rfl, run_takeDeferred hK, ?_⟩⟩
    have hr : ∀ r, some Dd = some r → ∃ o : Obj, W.heap[r]? = some o ∧ o.isCells = false := fun r e => by cases e; exact ⟨_, hK, rfl⟩
    have hk := blk_own (grownBy_putObj' _ Dd (.deferred none)) hr
    have hc4 : World.cell? _ ⟨w.heap.size + 1, 0, none⟩ = _ := (hk _ _ _ hc1).cell 0
    have hc5 : World.cell? _ ⟨w.heap.size + 1 + 1, 0, none⟩ = _ := (hk _ _ _ hc2).cell 0
    refine ⟨.tuple #[.int .i64 0, erV (wrN D at0 (pvals pre)).2], ?_, by rw [HO.out], ?_, ?_, ?_⟩
    · simp [results, Try.f86, go_sem, hc4, hc5]
    · obtain ⟨V', h⟩ := HX.out.dk
      rw [HE.out]
      exact ⟨V', h.nc hk⟩
    · exact HX.out.bel.trans (belowK_b (w := w) hbw _ Dd _ _ (by omega) hK rfl rfl)
    · exact fun g t cs hb h1 h2 h3 => hk _ _ _ (HX.out.ty g t cs hb h1 h2 h3)
theorem writeRows_any (base p B a : Nat) (V : Nat → Value) (D : Dk) (A : Option Addr) (len cap : Nat) (rows : List Ch) (w : World) (hd : DkAt w base p B V D) (hkp : KpC w base A len cap rows) (ha : a ≤ 1) (hDn : 44 ≤ D.n)
    (hS : (rowsR rows).size ≤ 7140) (hlen : len ≤ 1000) (hck : ∀ c ∈ rows, ckR c = 0) (hw : WOk D 22) :
    Calls Try.prog 86 #[ptr p, .int .i64 a, .slice A len cap] w fun e w' => e = .returned (WrOut D a rows) ∧ (∃ V', DkAt w' base p B V' (wrL D (1 + a * 21) (chunksR (rowsR rows))).1) ∧ Below base w w' ∧ Ty w w' :=
  (callsIn_wide (n := 9)).1 (writeRows_in 9 (by omega) base p B a V D A len cap rows w hd hkp ha hDn hS hlen hck hw)
end Go.Proofs.Ytgkenknplepmeaa
