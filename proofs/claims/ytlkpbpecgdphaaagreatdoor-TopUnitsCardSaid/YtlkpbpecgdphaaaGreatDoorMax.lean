/-
  WORDS: internal/bytealg.MaxLen holds some number; strings.Cut, by the shelf's contract: for texts of at most a million bytes.
-/
import Derived.Lib.CutLaws
import Derived.Test.YtlkpbpecgdphaaaGreatDoorSearch
import Derived.Test.YtlkpbpecgdphaaaGreatDoorShelf
namespace Go.Proofs.YtlkpbpecgdphaaaGreatDoor
open Go

abbrev Bs := List UInt8
def ba (l : Bs) : ByteArray := ⟨l.toArray⟩
theorem ba_data (l : Bs) : (ba l).data.toList = l := by simp [ba]
theorem ba_of (s : ByteArray) : ba s.data.toList = s := by simp [ba]
theorem ba_size (l : Bs) : (ba l).size = l.length := by simp [ba, ByteArray.size]
theorem ba_inj {a b : Bs} (h : ba a = ba b) : a = b := by rw [← ba_data a, h, ba_data]
theorem ba_append (a b : Bs) : ba (a ++ b) = ba a ++ ba b := by
  apply ByteArray.ext
  simp [ba]
theorem data_append (a b : ByteArray) : (a ++ b).data.toList = a.data.toList ++ b.data.toList := by simp

/-- Is it a variable's name? -/
def varOk (s : ByteArray) : Bool := decide (1 ≤ s.size) && decide (s.size ≤ 4) && s.data.toList.all fun b => decide (65 ≤ b.toNat) && decide (b.toNat ≤ 90)
/-- The text of the last variable of a name. -/
def lastV (l : List (ByteArray × ByteArray)) (n : ByteArray) : Option ByteArray := (l.reverse.find? fun v => decide (v.1 = n)).map (·.2)
theorem lastV_nil (n : ByteArray) : lastV [] n = none := rfl
theorem lastV_snoc (l : List (ByteArray × ByteArray)) (v : ByteArray × ByteArray) (n : ByteArray) : lastV (l ++ [v]) n = if v.1 = n then some v.2 else lastV l n := by
  unfold lastV
  rw [List.reverse_append, List.reverse_singleton, List.singleton_append, List.find?_cons]
  by_cases h : v.1 = n
  · simp [h]
  · simp [h]

/-- A text's expansion from 'out' on, a reference's value by V; the number of the error first. -/
def expL (V : Bs → Nat × Bs) : Nat → Bs → Bs → Nat × Bs
  | 0, out, _ => (0, out)
  | n + 1, out, s =>
    if (Lib.cut s [36, 40]).2.2 = true then
      if (Lib.cut (Lib.cut s [36, 40]).2.1 [41]).2.2 = true then
        if (V (Lib.cut (Lib.cut s [36, 40]).2.1 [41]).1).1 = 0 then
          if 600 < (out ++ ((Lib.cut s [36, 40]).1 ++ (V (Lib.cut (Lib.cut s [36, 40]).2.1 [41]).1).2)).length then (2, [])
          else expL V n (out ++ ((Lib.cut s [36, 40]).1 ++ (V (Lib.cut (Lib.cut s [36, 40]).2.1 [41]).1).2)) (Lib.cut (Lib.cut s [36, 40]).2.1 [41]).2.1
        else ((V (Lib.cut (Lib.cut s [36, 40]).2.1 [41]).1).1, [])
      else (4, [])
    else if 600 < (out ++ (Lib.cut s [36, 40]).1).length then (2, []) else (0, out ++ (Lib.cut s [36, 40]).1)
/-- The value of a reference, k levels left. -/
def valR (l : List (ByteArray × ByteArray)) : Nat → Bs → Nat × Bs
  | 0, n => if varOk (ba n) = true then (match lastV l (ba n) with | none => (5, []) | some _ => (9, [])) else (4, [])
  | k + 1, n => if varOk (ba n) = true then (match lastV l (ba n) with | none => (5, []) | some t => expL (valR l k) (t.size + 1) [] t.data.toList) else (4, [])
/-- A text's expansion, k levels left. -/
def expR (l : List (ByteArray × ByteArray)) (k : Nat) (s : Bs) : Nat × Bs := expL (valR l k) (s.length + 1) [] s

section cut
theorem cut_miss {s p : Bs} (h : (Lib.cut s p).2.2 = false) : Lib.index s p = -1 ∧ Lib.cut s p = (s, [], false) := by
  have hge := Lib.index_ge s p
  unfold Lib.cut at h ⊢
  split at h
  · cases h
  · rename_i hn
    exact ⟨by omega, by rw [if_neg hn]⟩
theorem cut_hit {s p : Bs} (h : (Lib.cut s p).2.2 = true) : ∃ i : Nat, Lib.index s p = i ∧ i + p.length ≤ s.length ∧ Lib.cut s p = (s.take i, s.drop (i + p.length), true) := by
  unfold Lib.cut at h ⊢
  split at h
  · rename_i hn
    have hr := Lib.index_room s p hn
    exact ⟨(Lib.index s p).toNat, by omega, by omega, by rw [if_pos hn]⟩
  · cases h
theorem cut_at {s p : Bs} {i : Nat} (h : Lib.index s p = i) : Lib.cut s p = (s.take i, s.drop (i + p.length), true) := by
  unfold Lib.cut
  rw [h, if_pos (by omega)]
  simp
theorem cut_none {s p : Bs} (h : Lib.index s p = -1) : Lib.cut s p = (s, [], false) := by
  unfold Lib.cut
  rw [h, if_neg (by omega)]
theorem cut_short {s p : Bs} (h : (Lib.cut s p).2.2 = true) : (Lib.cut s p).1.length + p.length + (Lib.cut s p).2.1.length = s.length := by
  obtain ⟨i, _, hr, e⟩ := cut_hit h
  rw [e]
  simp
  omega
theorem occAt_append {a b p : Bs} {i : Nat} (h : i + p.length ≤ a.length) : Lib.occAt (a ++ b) p i = Lib.occAt a p i := by
  unfold Lib.occAt
  rw [List.drop_append_of_le_length (by omega)]
  rw [Bool.eq_iff_iff, List.isPrefixOf_iff_prefix, List.isPrefixOf_iff_prefix]
  constructor
  · rintro ⟨t, ht⟩
    rw [List.prefix_iff_eq_take]
    have := congrArg (List.take p.length) ht
    simp at this
    rw [List.take_append_of_le_length (by simp; omega)] at this
    exact this
  · rintro ⟨t, ht⟩
    exact ⟨t ++ b, by rw [← List.append_assoc, ht]⟩
/-- An instance in the head is the first one of the whole. -/
theorem index_append {a b p : Bs} {i : Nat} (h : Lib.index a p = i) (hr : i + p.length ≤ a.length) : Lib.index (a ++ b) p = i := by
  rcases Lib.index_spec a p with ⟨e, _⟩ | ⟨j, e, hj, ho, hn⟩
  · omega
  · obtain rfl : i = j := by omega
    refine Lib.index_hit (fun k hk => ?_) (by simp; omega) (by rw [occAt_append hr]; exact ho)
    rw [occAt_append (by omega)]
    exact hn k hk
/-- No instance in the head and none across. -/
theorem index_tail {t b : Bs} {c d : UInt8} (h : Lib.index t [c, d] = -1) (hl : t.getLast? ≠ some c) : Lib.index (t ++ b) [c, d] = if Lib.index b [c, d] == -1 then -1 else Lib.index b [c, d] + t.length := by
  have hno : Lib.NoOcc (t ++ b) [c, d] t.length := by
    intro j hj
    rcases Lib.index_spec t [c, d] with ⟨_, hs⟩ | ⟨i, e, _⟩
    · by_cases hj2 : j + 2 ≤ t.length
      · rw [occAt_append (by simpa using hj2)]
        exact hs j (by omega)
      · have hj3 : j + 1 = t.length := by omega
        cases hq : Lib.occAt (t ++ b) [c, d] j with
        | false => rfl
        | true =>
          exfalso
          apply hl
          unfold Lib.occAt at hq
          rw [List.isPrefixOf_iff_prefix] at hq
          obtain ⟨r, hr⟩ := hq
          have h0 : ((t ++ b).drop j)[0]? = some c := by rw [← hr]; rfl
          rw [List.getElem?_drop, List.getElem?_append_left (by omega)] at h0
          rw [List.getLast?_eq_getElem?, ← hj3]
          simpa using h0
    · omega
  have := Lib.index_drop hno (by simp)
  rw [this]
  simp
end cut

section laws
variable {V : Bs → Nat × Bs}
/-- Whatever came out is short, where there is no error. -/
theorem expL_len : ∀ (n : Nat) (out s : Bs) (x : Bs), expL V (n + 1) out s = (0, x) → x.length ≤ 600 := by
  intro n
  induction n with
  | zero =>
    intro out s x h
    unfold expL at h
    split at h
    · split at h
      · split at h
        · split at h
          · simp at h
          · rename_i h1; simp only [expL, Prod.mk.injEq] at h; rw [← h.2]; omega
        · rename_i h2; simp at h; exact absurd h.1 h2
      · simp at h
    · split at h
      · simp at h
      · rename_i h1; simp only [Prod.mk.injEq] at h; rw [← h.2]; omega
  | succ n ih =>
    intro out s x h
    rw [expL] at h
    split at h
    · split at h
      · split at h
        · split at h
          · simp at h
          · exact ih _ _ _ h
        · rename_i h2; simp at h; exact absurd h.1 h2
      · simp at h
    · split at h
      · simp at h
      · rename_i h1; simp only [Prod.mk.injEq] at h; rw [← h.2]; omega
/-- The accumulated text is only carried on. -/
theorem expL_acc : ∀ (n : Nat) (out s x : Bs), expL V (n + 1) out s = (0, x) → ∃ z, x = out ++ z ∧ ∀ out' : Bs, out'.length + z.length ≤ 600 → expL V (n + 1) out' s = (0, out' ++ z) := by
  intro n
  induction n with
  | zero =>
    intro out s x h
    rw [expL] at h
    split at h
    · rename_i c1
      split at h
      · rename_i c2
        split at h
        · rename_i c3
          split at h
          · simp at h
          · simp only [expL, Prod.mk.injEq] at h
            refine ⟨_, h.2.symm, fun out' ho => ?_⟩
            rw [expL, if_pos c1, if_pos c2, if_pos c3, if_neg (by simp at ho ⊢; omega)]
            simp [expL]
        · rename_i h2; simp at h; exact absurd h.1 h2
      · simp at h
    · rename_i c1
      split at h
      · simp at h
      · simp only [Prod.mk.injEq] at h
        refine ⟨_, h.2.symm, fun out' ho => ?_⟩
        rw [expL, if_neg c1, if_neg (by simp at ho ⊢; omega)]
  | succ n ih =>
    intro out s x h
    rw [expL] at h
    split at h
    · rename_i c1
      split at h
      · rename_i c2
        split at h
        · rename_i c3
          split at h
          · simp at h
          · obtain ⟨z, e, hz⟩ := ih _ _ _ h
            refine ⟨(Lib.cut s [36, 40]).1 ++ (V (Lib.cut (Lib.cut s [36, 40]).2.1 [41]).1).2 ++ z, by rw [e]; simp, fun out' ho => ?_⟩
            rw [expL, if_pos c1, if_pos c2, if_pos c3, if_neg (by simp at ho ⊢; omega), hz _ (by simp at ho ⊢; omega)]
            simp
        · rename_i h2; simp at h; exact absurd h.1 h2
      · simp at h
    · rename_i c1
      split at h
      · simp at h
      · simp only [Prod.mk.injEq] at h
        refine ⟨_, h.2.symm, fun out' ho => ?_⟩
        rw [expL, if_neg c1, if_neg (by simp at ho ⊢; omega)]
theorem cut2_short {s : Bs} (c1 : (Lib.cut s [36, 40]).2.2 = true) (c2 : (Lib.cut (Lib.cut s [36, 40]).2.1 [41]).2.2 = true) : (Lib.cut (Lib.cut s [36, 40]).2.1 [41]).2.1.length < s.length := by
  have h1 := cut_short c1
  have h2 := cut_short c2
  simp at h1 h2
  omega
/-- More rounds than bytes are as good as any. -/
theorem expL_fuel : ∀ (n m : Nat) (out s : Bs), s.length < n → s.length < m → expL V n out s = expL V m out s := by
  intro n
  induction n with
  | zero => intro m out s h; omega
  | succ n ih =>
    intro m out s h1 h2
    obtain ⟨m, rfl⟩ : ∃ k, m = k + 1 := ⟨m - 1, by omega⟩
    rw [expL, expL]
    by_cases c1 : (Lib.cut s [36, 40]).2.2 = true
    · rw [if_pos c1, if_pos c1]
      by_cases c2 : (Lib.cut (Lib.cut s [36, 40]).2.1 [41]).2.2 = true
      · rw [if_pos c2, if_pos c2]
        have := cut2_short c1 c2
        split
        · split
          · rfl
          · exact ih m _ _ (by omega) (by omega)
        · rfl
      · rw [if_neg c2, if_neg c2]
    · rw [if_neg c1, if_neg c1]
/-- The expansion of a concatenation. -/
theorem expL_append (b : Bs) : ∀ (n : Nat) (out a x y : Bs), a.length < n → expL V n out a = (0, x) → a.getLast? ≠ some 36 → (∀ m, b.length < m → expL V m [] b = (0, y)) → x.length + y.length ≤ 600 →
    ∀ m, (a ++ b).length < m → expL V m out (a ++ b) = (0, x ++ y) := by
  intro n
  induction n with
  | zero => intro out a x y h; omega
  | succ n ih =>
    intro out a x y hn ha hl hb hxy m hm
    obtain ⟨m, rfl⟩ : ∃ k, m = k + 1 := ⟨m - 1, by omega⟩
    rw [expL] at ha
    split at ha
    · rename_i c1
      split at ha
      · rename_i c2
        split at ha
        · rename_i c3
          split at ha
          · simp at ha
          · rename_i c4
            have hsh := cut2_short c1 c2
            obtain ⟨i, hi, hr, e1⟩ := cut_hit c1
            have e2 : Lib.cut (a ++ b) [36, 40] = (a.take i, a.drop (i + 2) ++ b, true) := by
              rw [cut_at (index_append hi (by simpa using hr))]
              simp at hr
              rw [List.take_append_of_le_length (by omega), List.drop_append_of_le_length (by simpa using hr)]
              rfl
            rw [e1] at c2 c3 c4 ha hsh
            obtain ⟨j, hj, hr2, e3⟩ := cut_hit c2
            simp at hr hr2
            have e4 : Lib.cut (a.drop (i + 2) ++ b) [41] = ((a.drop (i + 2)).take j, (a.drop (i + 2)).drop (j + 1) ++ b, true) := by
              rw [cut_at (index_append (by simpa using hj) (by simp; omega))]
              rw [List.take_append_of_le_length (by simp; omega), List.drop_append_of_le_length (by simp; omega)]
              rfl
            simp only [List.length_cons, List.length_nil, Nat.zero_add] at e3 c3 c4 ha hsh
            rw [e3] at c3 c4 ha hsh
            rw [expL]
            simp only [e2, e4, if_true]
            rw [if_pos c3, if_neg c4]
            simp at hsh
            by_cases hz : (a.drop (i + 2)).drop (j + 1) = []
            · have _t := hz
              have ha' := ha
              rw [hz] at ha'
              obtain ⟨n, rfl⟩ : ∃ k, n = k + 1 := ⟨n - 1, by omega⟩
              have hx : x = out ++ (a.take i ++ (V ((a.drop (i + 2)).take j)).2) := by
                rw [expL] at ha'
                have hcn : Lib.cut ([] : Bs) [36, 40] = ([], [], false) := by decide
                simp only [hcn] at ha'
                simp only [Bool.false_eq_true, if_false, List.append_nil] at ha'
                split at ha'
                · simp at ha'
                · simp only [Prod.mk.injEq] at ha'; exact ha'.2.symm
              rw [hz, List.nil_append]
              have hm2 : b.length < m := by simp at hm; omega
              have hbm := hb m hm2
              obtain ⟨m', rfl⟩ : ∃ k, m = k + 1 := ⟨m - 1, by omega⟩
              obtain ⟨z, ez, hz2⟩ := expL_acc m' _ _ _ hbm
              simp at ez
              subst ez
              rw [hz2 _ (by rw [← hx]; exact hxy), ← hx]
            · refine ih _ _ _ _ (by simp; omega) ha ?_ hb hxy m (by simp at hm ⊢; omega)
              intro hq
              apply hl
              rw [List.drop_drop] at hq hz
              have : a = a.take (i + 2 + (j + 1)) ++ a.drop (i + 2 + (j + 1)) := (List.take_append_drop _ _).symm
              rw [this, List.getLast?_append, hq]
              rfl
        · rename_i h2; simp at ha; exact absurd ha.1 h2
      · simp at ha
    · rename_i c1
      have c1' : (Lib.cut a [36, 40]).2.2 = false := by simpa using c1
      obtain ⟨hi, e1⟩ := cut_miss c1'
      rw [e1] at ha
      split at ha
      · simp at ha
      · rename_i c4
        simp only [Prod.mk.injEq, true_and] at ha
        subst ha
        have hbm := hb (m + 1) (by simp at hm; omega)
        obtain ⟨z, ez, hz⟩ := expL_acc m _ _ _ hbm
        simp at ez
        subst ez
        have hz' := hz (out ++ a) (by simpa using hxy)
        rw [← hz']
        have hx := index_tail (b := b) hi hl
        rw [expL, expL]
        by_cases hb1 : Lib.index b [36, 40] = -1
        · rw [hb1] at hx
          rw [cut_none (show Lib.index (a ++ b) [36, 40] = -1 by simpa using hx), cut_none hb1]
          simp [List.append_assoc]
        · obtain ⟨i, ei⟩ : ∃ i : Nat, Lib.index b [36, 40] = i := ⟨(Lib.index b [36, 40]).toNat, by have := Lib.index_ge b [36, 40]; omega⟩
          rw [ei] at hx
          have hx' : Lib.index (a ++ b) [36, 40] = ((a.length + i : Nat) : Int) := by
            rw [hx]
            have : ((i : Int) == -1) = false := by rw [beq_eq_false_iff_ne]; omega
            rw [this]
            simp [Int.add_comm]
          rw [cut_at hx', cut_at ei]
          have t1 : (a ++ b).take (a.length + i) = a ++ b.take i := by rw [List.take_append, List.take_of_length_le (by omega)]; simp
          have t2 : (a ++ b).drop (a.length + i + [36, (40 : UInt8)].length) = b.drop (i + [36, (40 : UInt8)].length) := by simp [List.drop_append, Nat.add_assoc]
          rw [t1, t2]
          simp only [List.append_assoc]
theorem expR_append (l : List (ByteArray × ByteArray)) (k : Nat) (a b x y : Bs) (ha : expR l k a = (0, x)) (hb : expR l k b = (0, y)) (hl : a.getLast? ≠ some 36) (hxy : x.length + y.length ≤ 600) : expR l k (a ++ b) = (0, x ++ y) :=
  expL_append b _ _ _ _ _ (by omega) ha hl (fun m hm => by rw [expL_fuel m (b.length + 1) _ _ hm (by omega)]; exact hb) hxy _ (by omega)
end laws
end Go.Proofs.YtlkpbpecgdphaaaGreatDoor
namespace Go.Proofs.YtlkpbpecgdphaaaGreatDoor
open Go.RowKit

/-- internal/bytealg.MaxLen holds some number. -/
def MaxOk (w : World) : Prop := ∃ m : Int, w.cell? ⟨0, 0, none⟩ = some (.int .i64 m)
theorem MaxOk.below {w w' : World} (h : MaxOk w) (hb : Below w.heap.size w w') : MaxOk w' := by
  obtain ⟨m, hm⟩ := h
  exact ⟨m, (hb.cell (World.block_lt_of_cell? _ _ hm)).trans hm⟩
theorem MaxOk.drewN {w : World} (h : MaxOk w) (n : Nat) : MaxOk (w.drewN n) := h

def cutB (s : ByteArray) (p : Bs) : Bs × Bs × Bool := Lib.cut s.data.toList p
theorem cut_any (s sep : ByteArray) (p : Bs) (hp : sep.data.toList = p) (w : World) (hs : s.size ≤ 1000000) (hm : MaxOk w) :
    Calls Tryz.prog 82 #[.string s, .string sep] w fun e w' => ∃ n, e = .returned (.tuple #[.string (ba (cutB s p).1), .string (ba (cutB s p).2.1), .bool (cutB s p).2.2]) ∧ w' = w.drewN n := by
  obtain ⟨m, hm⟩ := hm
  subst hp
  refine (Tryz.strings_Cut s sep m w (by omega) hm).mono ?_
  rintro e w' ⟨rfl, n, rfl⟩
  exact ⟨n, rfl, rfl⟩
theorem below_drewN (w : World) (n : Nat) : Below w.heap.size w (w.drewN n) := by
  induction n with
  | zero => exact Below.refl _ _
  | succ n ih => exact ih.trans (Below.refl _ _).drew
end Go.Proofs.YtlkpbpecgdphaaaGreatDoor
