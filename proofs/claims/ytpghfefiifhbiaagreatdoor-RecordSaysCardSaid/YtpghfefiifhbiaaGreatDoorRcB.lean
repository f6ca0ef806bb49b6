/-
  WORDS AND WALKS: what the variables of the library that a record's text reads hold; a strings.Builder of the call's own, written by WriteString: what it holds, and that no block of another type turns; strconv.Itoa of small numbers; the closure of record.Text.
-/
import Derived.Test.YtpghfefiifhbiaaGreatDoorBlk
import Derived.Test.YtpghfefiifhbiaaGreatDoorExp
import Derived.Test.YtpghfefiifhbiaaGreatDoorRc
import Derived.Test.YtpghfefiifhbiaaGreatDoorShelf
import Derived.Lib.AppendStr
import Derived.Lib.Builder
import Derived.Lib.ItoaMem
import Derived.WalkSmall
namespace Go.Proofs.YtpghfefiifhbiaaGreatDoor
open Go.RowKit Go.Sort

/-- Of a block of one type and a row of another: the row lies elsewhere. -/
theorem row_block_ne {w : World} {base s : Nat} {e T : TypeId} {v : Value} {n b : Nat} {xs : List Value} {cs : Array Value} (h : w.ownsRow base e s v n xs) (hb : Blk w b T cs) (ht : T ≠ e) : v.ownBlock ≠ some b := by
  rcases h.2 with ⟨rfl, _⟩ | ⟨g, cap, cur, rfl, _, hg, _⟩
  · intro e; cases e
  · intro e
    obtain rfl : g = b := by injection e
    unfold Blk at hb
    rw [hg] at hb
    injection hb with hb
    injection hb with _ hb _
    exact ht hb.symm
theorem ownsRow_kept {w w' : World} {base s : Nat} {e : TypeId} {v : Value} {n : Nat} {xs : List Value} (h : w.ownsRow base e s v n xs) (hb : ∀ g, v.ownBlock = some g → w'.heap[g]? = w.heap[g]?) : w'.ownsRow base e s v n xs := by
  refine ⟨h.1, ?_⟩
  rcases h.2 with h2 | ⟨g, cap, cur, rfl, h3, h4, h5⟩
  · exact .inl h2
  · exact .inr ⟨g, cap, cur, rfl, h3, (hb g rfl).trans h4, h5⟩

/-! What the listed variables hold. -/
def ErrIn (w : World) (g : Nat) : Prop := ∃ ev, w.cell? ⟨g, 0, none⟩ = some ev ∧ (ev = .nilIface ∨ ∃ te pe, ev = .iface te pe)
structure Env (w : World) : Prop where
  tab : Lib.TabIs Tryz.prog w "internal/strconv.uint64pow10" .u64 Lib.pow10Tab
  gt : 3 < w.heap.size
  syn : ErrIn w 0
  ran : ErrIn w 1
theorem ErrIn.below {w w' : World} {g B : Nat} (h : ErrIn w g) (hB : w.heap.size ≤ B) (hb : Below B w w') : ErrIn w' g := by
  obtain ⟨ev, h1, h2⟩ := h
  exact ⟨ev, (hb.cell (Nat.lt_of_lt_of_le (World.block_lt_of_cell? _ _ h1) hB)).trans h1, h2⟩
theorem tab_named : Tryz.prog.globalNamed "internal/strconv.uint64pow10" = some 3 := by kernel_rfl
theorem Env.below {w w' : World} (h : Env w) (hb : Below w.heap.size w w') : Env w' :=
  ⟨var?_below hb tab_named h.gt h.tab, Nat.lt_of_lt_of_le h.gt hb.size, h.syn.below (Nat.le_refl _) hb, h.ran.below (Nat.le_refl _) hb⟩
/-- The variables lie below B, and what lies below B stands. -/
theorem ErrIn.belowB {w w' : World} {g B : Nat} (h : ErrIn w g) (hB : g < B) (hb : Below B w w') : ErrIn w' g := by
  obtain ⟨ev, h1, h2⟩ := h
  exact ⟨ev, (hb.cell (p := ⟨g, 0, none⟩) hB).trans h1, h2⟩
def EnvB (B : Nat) : Prop := 3 < B ∧ 0 < B ∧ 1 < B
theorem Env.B {w : World} (h : Env w) : EnvB w.heap.size := by
  obtain ⟨_, h1, _⟩ := h.syn
  obtain ⟨_, h2, _⟩ := h.ran
  exact ⟨h.gt, World.block_lt_of_cell? _ _ h1, World.block_lt_of_cell? _ _ h2⟩
theorem Env.belowB {w w' : World} {B : Nat} (h : Env w) (hB : EnvB B) (hb : Below B w w') : Env w' :=
  ⟨var?_below hb tab_named hB.1 h.tab, Nat.lt_of_lt_of_le h.gt hb.size, h.syn.belowB hB.2.1 hb, h.ran.belowB hB.2.2 hb⟩
theorem EnvB.mono {B B' : Nat} (h : EnvB B) (hB : B ≤ B') : EnvB B' := ⟨Nat.lt_of_lt_of_le h.1 hB, Nat.lt_of_lt_of_le h.2.1 hB, Nat.lt_of_lt_of_le h.2.2 hB⟩

theorem below_drews (w : World) (n : Nat) : Below w.heap.size w (w.drewN n) := by
  induction n with
  | zero => exact Below.refl _ _
  | succ n ih => exact ih.trans (Below.refl _ _).drew
theorem below_grows (w : World) (n : Nat) (os : Array Obj) : Below w.heap.size w (grow (w.drewN n) os) := by
  refine (below_drews w n).trans ⟨rfl, rfl, rfl, by rw [size_grow]; omega, fun k hk => heap_grow_old _ _ hk⟩
/-- strconv.Itoa of a number that is not below 0. -/
theorem itoa_any (n : Nat) (hn : n ≤ 1000000000) (w : World) (hE : Env w) : Calls Tryz.prog 40 #[.int .i64 n] w fun e w' => e = .returned (.string (ba (numL n))) ∧ Below w.heap.size w w' := by
  refine (Tryz.strconv_Itoa n (by omega) (by omega) w hE.tab).mono ?_
  rintro e w' ⟨rfl, k, os, rfl⟩
  rw [Lib.itoa_nonneg]
  exact ⟨rfl, below_grows w k os⟩

/-! The builder. -/
abbrev tBd : TypeId := 55
abbrev tBy : TypeId := 5
/-- No block of a type other than the builder's own turns. -/
def KpT (w w' : World) : Prop := ∀ g t cs, Blk w g t cs → t ≠ tBd → t ≠ tBy → Blk w' g t cs
theorem KpT.refl (w : World) : KpT w w := fun _ _ _ h _ _ => h
theorem KpT.trans {a b c : World} (h : KpT a b) (k : KpT b c) : KpT a c := fun g t cs hb h1 h2 => k g t cs (h g t cs hb h1 h2) h1 h2
theorem KpT.of_below {w w' : World} (h : Below w.heap.size w w') : KpT w w' := fun g _ _ hb _ _ => (h.block g hb.lt).trans hb
theorem KpT.set {w : World} {b i : Nat} {cs : Array Value} (hB : Blk w b tBd cs) (v : Value) : KpT w (w.setCell ⟨b, i, none⟩ v) := fun g t cs' hb h1 _ => hb.other (fun e => by
  subst e
  unfold Blk at hb hB
  rw [hb] at hB
  injection hB with hB
  injection hB with _ hB _
  exact h1 hB) v
theorem KpT.grown {w w' : World} {base n s : Nat} {v : Value} {xs : List Value} (ho : w.ownsRow base tBy s v n xs) (hg : w.grownBy w' v.ownBlock) : KpT w w' := fun g _ _ hb _ h2 => hb.grown hg (row_block_ne ho hb h2)

theorem bd_info : ∃ j, Tryz.prog.info? tBd = some j ∧ j.size = 2 := by
  have h : (Tryz.prog.info? tBd).map (fun i => i.size) = some 2 := by kernel_rfl
  cases e : Tryz.prog.info? tBd with
  | none => rw [e] at h; cases h
  | some i =>
    rw [e] at h
    simp only [Option.map_some, Option.some.injEq] at h
    exact ⟨i, rfl, h⟩
set_option maxHeartbeats 1000000 in
set_option maxRecDepth 100000 in
theorem bdCheck_used (b : Nat) (w : World) (h0 : w.cell? ⟨b, 0, none⟩ = some (ptr b)) : Calls Tryz.prog 43 #[ptr b] w fun e w' => e = .returned (.tuple #[]) ∧ w' = w := by
  obtain ⟨j, hj, _⟩ := bd_info
  have hne := Lib.run_neq_ptr_same (P := Tryz.prog) w ⟨b, 0, none⟩ Tryz.underlying52 hj
  unfold ptr at *
  go_enter Tryz.func43, Tryz.ntmps43
  go_wp2
  go_end0
  exact ⟨rfl, rfl⟩
set_option maxHeartbeats 1000000 in
set_option maxRecDepth 100000 in
theorem bdCheck_fresh (b : Nat) (w : World) (h0 : w.cell? ⟨b, 0, none⟩ = some (.pointer none)) (hsh : w.shape? b = some (tBd, 2)) (hfz : w.frozen? ⟨b, 0, none⟩ = false) : Calls Tryz.prog 43 #[ptr b] w fun e w' => e = .returned (.tuple #[]) ∧ w' = w.setCell ⟨b, 0, none⟩ (ptr b) := by
  obtain ⟨j, hj, hjs⟩ := bd_info
  have t1 := Lib.run_to_unsafe (P := Tryz.prog) w ⟨b, 0, none⟩ Tryz.underlying52 Tryz.underlying87 hj (by rw [hjs]; decide) hsh (by show 0 < 2; omega)
  have t3 := Lib.run_from_unsafe (P := Tryz.prog) w ⟨b, 0, none⟩ Tryz.underlying87 Tryz.underlying52 hj hsh (by kernel_rfl)
  have t2 : (callFunc 55 #[ptr b]).run Tryz.prog w = .ok (.value (ptr b)) w := by
    rw [run_callFunc_extern Tryz.func55 (by kernel_rfl) (by kernel_rfl) (by kernel_rfl) (e := Extern.AbiNoEscape.same) (by kernel_rfl), Lib.run_noEscape]
    rfl
  unfold ptr at *
  go_enter Tryz.func43, Tryz.ntmps43
  go_wp2
  go_end0
  exact ⟨rfl, rfl⟩
/-- Behind it the builder is used. -/
theorem bdCheck_any (B b : Nat) (bs : List Value) (w : World) (h : Lib.IsBuilder tBd tBy B b bs w) :
    Calls Tryz.prog 43 #[ptr b] w fun e w' => e = .returned (.tuple #[]) ∧ Lib.BuilderAt tBd tBy B b (ptr b) bs w' ∧ Below B w w' ∧ KpT w w' := by
  rcases h with h | h
  · refine (bdCheck_fresh b w h.cell0 h.shape h.frozen0).mono fun e w' hh => ?_
    obtain ⟨he, hw⟩ := hh
    rw [hw]
    have hk : ∃ cs, Blk w b tBd cs := by obtain ⟨_, v, hk, _⟩ := h; exact ⟨_, hk⟩
    obtain ⟨cs, hk⟩ := hk
    exact ⟨he, h.used _, (Below.refl B w).setCell (p := ⟨b, 0, none⟩) h.1 _, KpT.set hk _⟩
  · refine (bdCheck_used b w h.cell0).mono fun e w' hh => ?_
    obtain ⟨he, hw⟩ := hh
    rw [hw]
    exact ⟨he, h, Below.refl _ _, KpT.refl _⟩
theorem strCells_app (a b : ByteArray) : Lib.strCells (a ++ b) = Lib.strCells a ++ Lib.strCells b := by simp [Lib.strCells]
set_option maxRecDepth 100000 in
set_option maxHeartbeats 1600000 in
theorem bdWrite_any (B b : Nat) (t s : ByteArray) (w : World) (h : Lib.IsBuilder tBd tBy B b (Lib.strCells t) w) (hn : t.size + s.size ≤ 1000000000) (hB : B ≤ w.heap.size) :
    Calls Tryz.prog 28 #[ptr b, .string s] w fun e w' => e = .returned (.tuple #[.int .i64 s.size, .nilIface]) ∧ Lib.BuilderAt tBd tBy B b (ptr b) (Lib.strCells (t ++ s)) w' ∧ Below B w w' ∧ KpT w w' := by
  have HCC := Lib.hid (bdCheck_any B b (Lib.strCells t) w h)
  clear h
  unfold ptr at *
  go_enter Tryz.func28, Tryz.ntmps28
  go_wp2_with fail
  refine HCC.out.mono ?_
  rintro e w1 ⟨rfl, hba, hb1, hkt⟩
  obtain ⟨hBb, v, hk, ho, hne⟩ := hba
  have hbk : Blk w1 b tBd #[.pointer (some ⟨b, 0, none⟩), v] := hk
  have c1 := hbk.cell 1
  have HB := Lib.hid hbk
  have HO : Hid (w1.ownsRow B tBy 1 v t.size (Lib.strCells t)) := by
    have h := ho
    rw [Lib.strCells_length] at h
    exact h
  have HN := Lib.hid hne
  have HB1 := Lib.hid hb1
  have HKT := Lib.hid hkt
  have hB1 : B ≤ w1.heap.size := Nat.le_trans hB hb1.size
  clear hk ho hne hbk hb1 HCC hkt
  go_wp2_with (refine Lib.wpList_append_own_string _ rfl (.tmp 12) (.tmp 13) 53 9 rfl B tBy Tryz.t5 Tryz.underlying53 Tryz.underlying9 (by kernel_rfl) (by kernel_rfl) (by kernel_rfl) (by kernel_rfl) v t.size (Lib.strCells t) rfl HO.out s rfl (by unfold maxLen; omega) (by omega) hB1 ?_; intro v2 w2 ho2 hg2 _; obtain ⟨A2, k2, rfl⟩ := own_shape ho2; have HO2 := Lib.hid ho2; have HG2 := Lib.hid hg2; have HB2 := Lib.hid (HB.out.grown hg2 HN.out); have c2 : w2.cell? ⟨b, 1, none⟩ = some v := HB2.out.cell 1; have f2 := HB2.out.free 1; clear ho2 hg2)
  go_ret2
  have hne2 := row_block_ne HO2.out HB2.out (by decide)
  have hlen : (Lib.strCells (t ++ s)).length = t.size + s.size := by rw [Lib.strCells_length, ByteArray.size_append]
  refine ⟨rfl, ⟨hBb, .slice A2 (t.size + s.size) k2, HB2.out.set 1 _, ?_, hne2⟩, (HB1.out.trans ((Below.refl B w1).grown HG2.out hB1 (fun g' hg' => (HO.out.lt g' hg').1))).setCell (p := ⟨b, 1, none⟩) hBb _, ?_⟩
  · rw [hlen, strCells_app]
    exact ownsRow_kept HO2.out fun g hg => Below.heap_setCell _ _ _ _ (fun e => hne2 (by rw [hg]; exact congrArg some e))
  · exact (HKT.out.trans (KpT.grown HO.out HG2.out)).trans (KpT.set HB2.out _)
theorem isb_below {T e : TypeId} {B b : Nat} {bs : List Value} {w w' : World} (h : Lib.IsBuilder T e B b bs w) (hb : Below w.heap.size w w') : Lib.IsBuilder T e B b bs w' := by
  have key : ∀ {q : Value}, Lib.BuilderAt T e B b q bs w → Lib.BuilderAt T e B b q bs w' := fun {q} h => by
    have hlt := h.lt
    obtain ⟨hB, v, hk, ho, hne⟩ := h
    exact ⟨hB, v, (hb.block b hlt).trans hk, ownsRow_kept ho (fun g hg => hb.block g (ho.lt g hg).2), hne⟩
  exact h.imp key key

/-- The builder at block b holds the text t; what lies below B is not its own. -/
def Bw (B b : Nat) (t : Bs) (w : World) : Prop := Lib.IsBuilder tBd tBy B b (Lib.strCells (ba t)) w ∧ B ≤ w.heap.size
theorem Bw.below {B b : Nat} {t : Bs} {w w' : World} (h : Bw B b t w) (hb : Below w.heap.size w w') : Bw B b t w' := ⟨isb_below h.1 hb, Nat.le_trans h.2 hb.size⟩
/-- From the one world to the other: the builder goes on to a longer text, nothing else turns. -/
structure Wrt (B b : Nat) (t : Bs) (w w' : World) : Prop where
  bw : Bw B b t w'
  lo : Below B w w'
  kp : KpT w w'
theorem Wrt.of_below {B b : Nat} {t : Bs} {w w' : World} (h : Bw B b t w) (hb : Below w.heap.size w w') : Wrt B b t w w' := ⟨h.below hb, hb.mono h.2, KpT.of_below hb⟩
theorem Wrt.trans {B b : Nat} {t t' : Bs} {w w' w2 : World} (h : Wrt B b t w w') (k : Wrt B b t' w' w2) : Wrt B b t' w w2 := ⟨k.bw, h.lo.trans k.lo, h.kp.trans k.kp⟩
abbrev putV (b : Nat) : Value := .func (.func 27) #[] #[ptr b]
set_option maxRecDepth 100000 in
set_option maxHeartbeats 1000000 in
theorem put1_any (B b : Nat) (t : Bs) (s : ByteArray) (w : World) (h : Bw B b t w) (hn : t.length + s.size ≤ 1000000000) :
    Calls Tryz.prog 27 #[.string s, ptr b] w fun e w' => e = .returned (.tuple #[]) ∧ Wrt B b (t ++ s.data.toList) w w' := by
  have HC := Lib.hid (bdWrite_any B b (ba t) s w h.1 (by rw [ba_size]; exact hn) h.2)
  have HB := Lib.hid h.2
  clear h
  unfold ptr at *
  go_enter Tryz.func27, Tryz.ntmps27
  go_wp2_with fail
  refine HC.out.mono ?_
  rintro e w1 ⟨rfl, hba, hb1, hkt⟩
  have e1 : ba t ++ s = ba (t ++ s.data.toList) := by rw [ba_append, ba_of]
  rw [e1] at hba
  have H1 := Lib.hid hba
  have H2 := Lib.hid hb1
  have H3 := Lib.hid hkt
  clear hba hb1 hkt HC
  go_wp2
  go_end0
  exact ⟨rfl, ⟨.inr H1.out, Nat.le_trans HB.out H2.out.size⟩, H2.out, H3.out⟩
end Go.Proofs.YtpghfefiifhbiaaGreatDoor
