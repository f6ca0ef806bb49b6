/-
  WALKS: the writer behind strings.genericReplacer.Replace: getStringWriter, appendSliceWriter.WriteString.
-/
import Derived.Test.YtlkpbpecgdphaaaLight
import Derived.Test.YtlkpbpecgdphaaaTexts
import Derived.Deep.MidRow
import Derived.Deep.DeepCutAuto
import Derived.Lib.CutLaws
import Derived.Test.YtlkpbpecgdphaaaShelf
import Derived.Deep.QuietTactic
import Derived.BigQuiet
import Derived.Lib.AppendStr
import Derived.Laws.IdiomStrings
import Derived.Lib.Builder
namespace Go.Proofs.Ytlkpbpecgdphaaa
open Go.RowKit

def keys4 (v0 v1 v2 v3 : ByteArray) : List ByteArray := [⟨#[36, 64]⟩, v0, ⟨#[36, 60]⟩, v1, ⟨#[36, 94]⟩, v2, ⟨#[36, 42]⟩, v3]
/-- The keys' letters in order. -/
def sq : List Nat := [36, 64, 36, 60, 36, 94, 36, 42]
theorem keys4_even (v0 v1 v2 v3 : ByteArray) (k : Nat) (hk : k < 4) : ∃ x : ByteArray, (keys4 v0 v1 v2 v3)[2 * k]? = some x ∧ x.size = 2 ∧ ∀ j (h : j < x.size), sq[2 * k + j]? = some (x[j].toNat) := by
  rcases k with _ | _ | _ | _ | k
  · exact ⟨_, rfl, rfl, fun j h => by rcases j with _ | _ | j; rfl; rfl; exact absurd h (by show ¬ j + 2 < 2; omega)⟩
  · exact ⟨_, rfl, rfl, fun j h => by rcases j with _ | _ | j; rfl; rfl; exact absurd h (by show ¬ j + 2 < 2; omega)⟩
  · exact ⟨_, rfl, rfl, fun j h => by rcases j with _ | _ | j; rfl; rfl; exact absurd h (by show ¬ j + 2 < 2; omega)⟩
  · exact ⟨_, rfl, rfl, fun j h => by rcases j with _ | _ | j; rfl; rfl; exact absurd h (by show ¬ j + 2 < 2; omega)⟩
  · omega
def mark (L : List Nat) (x : Nat) : Int := if x ∈ L then 1 else 0
def upm (m : Nat → Int) (x : Nat) (y : Int) : Nat → Int := fun z => if z = x then y else m z
theorem mark_step {n c : Nat} (h : sq[n]? = some c) : upm (mark (sq.take n)) c 1 = mark (sq.take (n + 1)) := by
  funext z
  unfold upm mark
  rw [List.take_add_one, h]
  by_cases e : z = c
  · simp [e]
  · simp [e]
def mC (m : Nat → Int) : List Value := (List.range 256).map (fun x => .int .u8 (m x))
def gC (tb : Value) (ts : Int) (m : Nat → Int) : Array Value := (noS :: .int .i64 0 :: noS :: noP :: tb :: .int .i64 ts :: mC m).toArray
theorem mC_len (m : Nat → Int) : (mC m).length = 256 := by simp [mC]
theorem mC_at (m : Nat → Int) (x : Nat) (h : x < 256) : (mC m)[x]? = some (.int .u8 (m x)) := by
  unfold mC
  rw [List.getElem?_map, List.getElem?_range h]
  rfl
theorem gC_at (tb : Value) (ts : Int) (m : Nat → Int) (x : Nat) (h : x < 256) : (gC tb ts m)[6 + x]? = some (.int .u8 (m x)) := by
  unfold gC
  rw [List.getElem?_toArray, Nat.add_comm]
  exact mC_at m x h
theorem gC_2 (tb : Value) (ts : Int) (m : Nat → Int) : (gC tb ts m)[2]? = some noS := by unfold gC; rw [List.getElem?_toArray]; rfl
theorem gC_4 (tb : Value) (ts : Int) (m : Nat → Int) : (gC tb ts m)[4]? = some tb := by unfold gC; rw [List.getElem?_toArray]; rfl
theorem gC_5 (tb : Value) (ts : Int) (m : Nat → Int) : (gC tb ts m)[5]? = some (.int .i64 ts) := by unfold gC; rw [List.getElem?_toArray]; rfl
theorem gC_1 (tb : Value) (ts : Int) (m : Nat → Int) : (gC tb ts m)[1]? = some (.int .i64 0) := by unfold gC; rw [List.getElem?_toArray]; rfl
theorem gC_size (tb : Value) (ts : Int) (m : Nat → Int) : (gC tb ts m).size = 262 := by simp [gC, mC_len]
theorem mC_set (m : Nat → Int) (x : Nat) (y : Int) (h : x < 256) : (mC m).set x (.int .u8 y) = mC (upm m x y) := by
  apply List.ext_getElem?
  intro i
  rw [List.getElem?_set]
  by_cases hi : i < 256
  · rw [mC_at _ _ hi, mC_at _ _ hi, mC_len]
    unfold upm
    by_cases e : x = i
    · simp [e, hi]
    · rw [if_neg e, if_neg (fun h => e h.symm)]
  · have n1 : (mC m)[i]? = none := List.getElem?_eq_none (by rw [mC_len]; omega)
    have n2 : (mC (upm m x y))[i]? = none := List.getElem?_eq_none (by rw [mC_len]; omega)
    rw [n1, n2, mC_len]
    simp
    omega
theorem gC_set (tb : Value) (ts : Int) (m : Nat → Int) (x : Nat) (y : Int) (h : x < 256) : (gC tb ts m).setIfInBounds (6 + x) (.int .u8 y) = gC tb ts (upm m x y) := by
  unfold gC
  rw [List.setIfInBounds_toArray, ← mC_set m x y h, Nat.add_comm]
  rfl
theorem gC_ts (tb : Value) (ts ts' : Int) (m : Nat → Int) : (gC tb ts m).setIfInBounds 5 (.int .i64 ts') = gC tb ts' m := by
  unfold gC
  rw [List.setIfInBounds_toArray]
  rfl
theorem gC_tb (tb tb' : Value) (ts : Int) (m : Nat → Int) : (gC tb ts m).setIfInBounds 4 tb' = gC tb' ts m := by
  unfold gC
  rw [List.setIfInBounds_toArray]
  rfl
/-- How many are marked below i. -/
def cnt (m : Nat → Int) : Nat → Int
  | 0 => 0
  | i + 1 => cnt m i + m i
/-- The mapping, made up to i. -/
def mp (m : Nat → Int) (i x : Nat) : Int := if x < i then (if m x = 0 then 5 else cnt m x) else m x
theorem mp_step (m : Nat → Int) (i : Nat) : upm (mp m i) i (if m i = 0 then 5 else cnt m i) = mp m (i + 1) := by
  funext z
  unfold upm mp
  by_cases e : z = i
  · subst e; simp
  · rw [if_neg e]
    by_cases h : z < i
    · simp only [if_pos h, if_pos (show z < i + 1 by omega)]
    · simp only [if_neg h, if_neg (show ¬ z < i + 1 by omega)]
theorem mp_zero (m : Nat → Int) : mp m 0 = m := by funext z; simp [mp]
theorem cnt_sq : cnt (mark sq) 256 = 5 := by decide +kernel
theorem mark_01 (L : List Nat) (x : Nat) : mark L x = 0 ∨ mark L x = 1 := by unfold mark; split; exact .inr rfl; exact .inl rfl
theorem cnt_mono (L : List Nat) (i d : Nat) : 0 ≤ cnt (mark L) i ∧ cnt (mark L) i ≤ cnt (mark L) (i + d) := by
  constructor
  · induction i with
    | zero => exact Int.le_refl _
    | succ i ih => show 0 ≤ cnt (mark L) i + mark L i; rcases mark_01 L i with h | h <;> omega
  · induction d with
    | zero => exact Int.le_refl _
    | succ d ih => show cnt (mark L) i ≤ cnt (mark L) (i + d) + mark L (i + d); rcases mark_01 L (i + d) with h | h <;> omega
theorem cnt_le (i : Nat) (h : i ≤ 256) : 0 ≤ cnt (mark sq) i ∧ cnt (mark sq) i ≤ 5 := by
  have := cnt_mono sq i (256 - i)
  rw [show i + (256 - i) = 256 by omega, cnt_sq] at this
  exact this
/-- What the mapping comes to. -/
abbrev mp5 : Nat → Int := mp (mark sq) 256
theorem mp5_36 : mp5 36 = 0 ∧ mp5 42 = 1 ∧ mp5 60 = 2 ∧ mp5 64 = 3 ∧ mp5 94 = 4 := by decide +kernel
theorem mp5_other (x : Nat) (h : x < 256) (hn : x ∉ sq) : mp5 x = 5 := by unfold mp5 mp mark; rw [if_pos h, if_neg hn]; rfl


section
variable {w wr : World} {v0 v1 v2 v3 : ByteArray} {k : Nat}
end

end Go.Proofs.Ytlkpbpecgdphaaa
namespace Go.Proofs.Ytlkpbpecgdphaaa
open Go

abbrev Bs := List UInt8
def ba (l : Bs) : ByteArray := ⟨l.toArray⟩
theorem ba_data (l : Bs) : (ba l).data.toList = l := by simp [ba]
theorem ba_of (s : ByteArray) : ba s.data.toList = s := by simp [ba]
theorem ba_size (l : Bs) : (ba l).size = l.length := by simp [ba, ByteArray.size]
theorem ba_inj {a b : Bs} (h : ba a = ba b) : a = b := by rw [← ba_data a, h, ba_data]
theorem ba_append (a b : Bs) : ba (a ++ b) = ba a ++ ba b := by
  apply ByteArray.ext
  simp [ba]
theorem data_append (a b : ByteArray) : (a ++ b).data.toList = a.data.toList ++ b.data.toList := by simp

/-- Is it a variable's name? -/
def varOk (s : ByteArray) : Bool := decide (1 ≤ s.size) && decide (s.size ≤ 4) && s.data.toList.all fun b => decide (65 ≤ b.toNat) && decide (b.toNat ≤ 90)
/-- The text of the last variable of a name. -/
def lastV (l : List (ByteArray × ByteArray)) (n : ByteArray) : Option ByteArray := (l.reverse.find? fun v => decide (v.1 = n)).map (·.2)
theorem lastV_nil (n : ByteArray) : lastV [] n = none := rfl
theorem lastV_snoc (l : List (ByteArray × ByteArray)) (v : ByteArray × ByteArray) (n : ByteArray) : lastV (l ++ [v]) n = if v.1 = n then some v.2 else lastV l n := by
  unfold lastV
  rw [List.reverse_append, List.reverse_singleton, List.singleton_append, List.find?_cons]
  by_cases h : v.1 = n
  · simp [h]
  · simp [h]

/-- A text's expansion from 'out' on, a reference's value by V; the number of the error first. -/
def expL (V : Bs → Nat × Bs) : Nat → Bs → Bs → Nat × Bs
  | 0, out, _ => (0, out)
  | n + 1, out, s =>
    if (Lib.cut s [36, 40]).2.2 = true then
      if (Lib.cut (Lib.cut s [36, 40]).2.1 [41]).2.2 = true then
        if (V (Lib.cut (Lib.cut s [36, 40]).2.1 [41]).1).1 = 0 then
          if 600 < (out ++ ((Lib.cut s [36, 40]).1 ++ (V (Lib.cut (Lib.cut s [36, 40]).2.1 [41]).1).2)).length then (2, [])
          else expL V n (out ++ ((Lib.cut s [36, 40]).1 ++ (V (Lib.cut (Lib.cut s [36, 40]).2.1 [41]).1).2)) (Lib.cut (Lib.cut s [36, 40]).2.1 [41]).2.1
        else ((V (Lib.cut (Lib.cut s [36, 40]).2.1 [41]).1).1, [])
      else (4, [])
    else if 600 < (out ++ (Lib.cut s [36, 40]).1).length then (2, []) else (0, out ++ (Lib.cut s [36, 40]).1)
/-- The value of a reference, k levels left. -/
def valR (l : List (ByteArray × ByteArray)) : Nat → Bs → Nat × Bs
  | 0, n => if varOk (ba n) = true then (match lastV l (ba n) with | none => (5, []) | some _ => (9, [])) else (4, [])
  | k + 1, n => if varOk (ba n) = true then (match lastV l (ba n) with | none => (5, []) | some t => expL (valR l k) (t.size + 1) [] t.data.toList) else (4, [])
/-- A text's expansion, k levels left. -/
def expR (l : List (ByteArray × ByteArray)) (k : Nat) (s : Bs) : Nat × Bs := expL (valR l k) (s.length + 1) [] s

section cut
theorem cut_miss {s p : Bs} (h : (Lib.cut s p).2.2 = false) : Lib.index s p = -1 ∧ Lib.cut s p = (s, [], false) := by
  have hge := Lib.index_ge s p
  unfold Lib.cut at h ⊢
  split at h
  · cases h
  · rename_i hn
    exact ⟨by omega, by rw [if_neg hn]⟩
theorem cut_hit {s p : Bs} (h : (Lib.cut s p).2.2 = true) : ∃ i : Nat, Lib.index s p = i ∧ i + p.length ≤ s.length ∧ Lib.cut s p = (s.take i, s.drop (i + p.length), true) := by
  unfold Lib.cut at h ⊢
  split at h
  · rename_i hn
    have hr := Lib.index_room s p hn
    exact ⟨(Lib.index s p).toNat, by omega, by omega, by rw [if_pos hn]⟩
  · cases h
theorem cut_at {s p : Bs} {i : Nat} (h : Lib.index s p = i) : Lib.cut s p = (s.take i, s.drop (i + p.length), true) := by
  unfold Lib.cut
  rw [h, if_pos (by omega)]
  simp
theorem cut_none {s p : Bs} (h : Lib.index s p = -1) : Lib.cut s p = (s, [], false) := by
  unfold Lib.cut
  rw [h, if_neg (by omega)]
theorem cut_short {s p : Bs} (h : (Lib.cut s p).2.2 = true) : (Lib.cut s p).1.length + p.length + (Lib.cut s p).2.1.length = s.length := by
  obtain ⟨i, _, hr, e⟩ := cut_hit h
  rw [e]
  simp
  omega
theorem occAt_append {a b p : Bs} {i : Nat} (h : i + p.length ≤ a.length) : Lib.occAt (a ++ b) p i = Lib.occAt a p i := by
  unfold Lib.occAt
  rw [List.drop_append_of_le_length (by omega)]
  rw [Bool.eq_iff_iff, List.isPrefixOf_iff_prefix, List.isPrefixOf_iff_prefix]
  constructor
  · rintro ⟨t, ht⟩
    rw [List.prefix_iff_eq_take]
    have := congrArg (List.take p.length) ht
    simp at this
    rw [List.take_append_of_le_length (by simp; omega)] at this
    exact this
  · rintro ⟨t, ht⟩
    exact ⟨t ++ b, by rw [← List.append_assoc, ht]⟩
/-- An instance in the head is the first one of the whole. -/
theorem index_append {a b p : Bs} {i : Nat} (h : Lib.index a p = i) (hr : i + p.length ≤ a.length) : Lib.index (a ++ b) p = i := by
  rcases Lib.index_spec a p with ⟨e, _⟩ | ⟨j, e, hj, ho, hn⟩
  · omega
  · obtain rfl : i = j := by omega
    refine Lib.index_hit (fun k hk => ?_) (by simp; omega) (by rw [occAt_append hr]; exact ho)
    rw [occAt_append (by omega)]
    exact hn k hk
/-- No instance in the head and none across. -/
theorem index_tail {t b : Bs} {c d : UInt8} (h : Lib.index t [c, d] = -1) (hl : t.getLast? ≠ some c) : Lib.index (t ++ b) [c, d] = if Lib.index b [c, d] == -1 then -1 else Lib.index b [c, d] + t.length := by
  have hno : Lib.NoOcc (t ++ b) [c, d] t.length := by
    intro j hj
    rcases Lib.index_spec t [c, d] with ⟨_, hs⟩ | ⟨i, e, _⟩
    · by_cases hj2 : j + 2 ≤ t.length
      · rw [occAt_append (by simpa using hj2)]
        exact hs j (by omega)
      · have hj3 : j + 1 = t.length := by omega
        cases hq : Lib.occAt (t ++ b) [c, d] j with
        | false => rfl
        | true =>
          exfalso
          apply hl
          unfold Lib.occAt at hq
          rw [List.isPrefixOf_iff_prefix] at hq
          obtain ⟨r, hr⟩ := hq
          have h0 : ((t ++ b).drop j)[0]? = some c := by rw [← hr]; rfl
          rw [List.getElem?_drop, List.getElem?_append_left (by omega)] at h0
          rw [List.getLast?_eq_getElem?, ← hj3]
          simpa using h0
    · omega
  have := Lib.index_drop hno (by simp)
  rw [this]
  simp
end cut

section laws
variable {V : Bs → Nat × Bs}
/-- Whatever came out is short, where there is no error. -/
theorem expL_len : ∀ (n : Nat) (out s : Bs) (x : Bs), expL V (n + 1) out s = (0, x) → x.length ≤ 600 := by
  intro n
  induction n with
  | zero =>
    intro out s x h
    unfold expL at h
    split at h
    · split at h
      · split at h
        · split at h
          · simp at h
          · rename_i h1; simp only [expL, Prod.mk.injEq] at h; rw [← h.2]; omega
        · rename_i h2; simp at h; exact absurd h.1 h2
      · simp at h
    · split at h
      · simp at h
      · rename_i h1; simp only [Prod.mk.injEq] at h; rw [← h.2]; omega
  | succ n ih =>
    intro out s x h
    rw [expL] at h
    split at h
    · split at h
      · split at h
        · split at h
          · simp at h
          · exact ih _ _ _ h
        · rename_i h2; simp at h; exact absurd h.1 h2
      · simp at h
    · split at h
      · simp at h
      · rename_i h1; simp only [Prod.mk.injEq] at h; rw [← h.2]; omega
/-- The accumulated text is only carried on. -/
theorem expL_acc : ∀ (n : Nat) (out s x : Bs), expL V (n + 1) out s = (0, x) → ∃ z, x = out ++ z ∧ ∀ out' : Bs, out'.length + z.length ≤ 600 → expL V (n + 1) out' s = (0, out' ++ z) := by
  intro n
  induction n with
  | zero =>
    intro out s x h
    rw [expL] at h
    split at h
    · rename_i c1
      split at h
      · rename_i c2
        split at h
        · rename_i c3
          split at h
          · simp at h
          · simp only [expL, Prod.mk.injEq] at h
            refine ⟨_, h.2.symm, fun out' ho => ?_⟩
            rw [expL, if_pos c1, if_pos c2, if_pos c3, if_neg (by simp at ho ⊢; omega)]
            simp [expL]
        · rename_i h2; simp at h; exact absurd h.1 h2
      · simp at h
    · rename_i c1
      split at h
      · simp at h
      · simp only [Prod.mk.injEq] at h
        refine ⟨_, h.2.symm, fun out' ho => ?_⟩
        rw [expL, if_neg c1, if_neg (by simp at ho ⊢; omega)]
  | succ n ih =>
    intro out s x h
    rw [expL] at h
    split at h
    · rename_i c1
      split at h
      · rename_i c2
        split at h
        · rename_i c3
          split at h
          · simp at h
          · obtain ⟨z, e, hz⟩ := ih _ _ _ h
            refine ⟨(Lib.cut s [36, 40]).1 ++ (V (Lib.cut (Lib.cut s [36, 40]).2.1 [41]).1).2 ++ z, by rw [e]; simp, fun out' ho => ?_⟩
            rw [expL, if_pos c1, if_pos c2, if_pos c3, if_neg (by simp at ho ⊢; omega), hz _ (by simp at ho ⊢; omega)]
            simp
        · rename_i h2; simp at h; exact absurd h.1 h2
      · simp at h
    · rename_i c1
      split at h
      · simp at h
      · simp only [Prod.mk.injEq] at h
        refine ⟨_, h.2.symm, fun out' ho => ?_⟩
        rw [expL, if_neg c1, if_neg (by simp at ho ⊢; omega)]
theorem cut2_short {s : Bs} (c1 : (Lib.cut s [36, 40]).2.2 = true) (c2 : (Lib.cut (Lib.cut s [36, 40]).2.1 [41]).2.2 = true) : (Lib.cut (Lib.cut s [36, 40]).2.1 [41]).2.1.length < s.length := by
  have h1 := cut_short c1
  have h2 := cut_short c2
  simp at h1 h2
  omega
/-- More rounds than bytes are as good as any. -/
theorem expL_fuel : ∀ (n m : Nat) (out s : Bs), s.length < n → s.length < m → expL V n out s = expL V m out s := by
  intro n
  induction n with
  | zero => intro m out s h; omega
  | succ n ih =>
    intro m out s h1 h2
    obtain ⟨m, rfl⟩ : ∃ k, m = k + 1 := ⟨m - 1, by omega⟩
    rw [expL, expL]
    by_cases c1 : (Lib.cut s [36, 40]).2.2 = true
    · rw [if_pos c1, if_pos c1]
      by_cases c2 : (Lib.cut (Lib.cut s [36, 40]).2.1 [41]).2.2 = true
      · rw [if_pos c2, if_pos c2]
        have := cut2_short c1 c2
        split
        · split
          · rfl
          · exact ih m _ _ (by omega) (by omega)
        · rfl
      · rw [if_neg c2, if_neg c2]
    · rw [if_neg c1, if_neg c1]
/-- The expansion of a concatenation. -/
theorem expL_append (b : Bs) : ∀ (n : Nat) (out a x y : Bs), a.length < n → expL V n out a = (0, x) → a.getLast? ≠ some 36 → (∀ m, b.length < m → expL V m [] b = (0, y)) → x.length + y.length ≤ 600 →
    ∀ m, (a ++ b).length < m → expL V m out (a ++ b) = (0, x ++ y) := by
  intro n
  induction n with
  | zero => intro out a x y h; omega
  | succ n ih =>
    intro out a x y hn ha hl hb hxy m hm
    obtain ⟨m, rfl⟩ : ∃ k, m = k + 1 := ⟨m - 1, by omega⟩
    rw [expL] at ha
    split at ha
    · rename_i c1
      split at ha
      · rename_i c2
        split at ha
        · rename_i c3
          split at ha
          · simp at ha
          · rename_i c4
            have hsh := cut2_short c1 c2
            obtain ⟨i, hi, hr, e1⟩ := cut_hit c1
            have e2 : Lib.cut (a ++ b) [36, 40] = (a.take i, a.drop (i + 2) ++ b, true) := by
              rw [cut_at (index_append hi (by simpa using hr))]
              simp at hr
              rw [List.take_append_of_le_length (by omega), List.drop_append_of_le_length (by simpa using hr)]
              rfl
            rw [e1] at c2 c3 c4 ha hsh
            obtain ⟨j, hj, hr2, e3⟩ := cut_hit c2
            simp at hr hr2
            have e4 : Lib.cut (a.drop (i + 2) ++ b) [41] = ((a.drop (i + 2)).take j, (a.drop (i + 2)).drop (j + 1) ++ b, true) := by
              rw [cut_at (index_append (by simpa using hj) (by simp; omega))]
              rw [List.take_append_of_le_length (by simp; omega), List.drop_append_of_le_length (by simp; omega)]
              rfl
            simp only [List.length_cons, List.length_nil, Nat.zero_add] at e3 c3 c4 ha hsh
            rw [e3] at c3 c4 ha hsh
            rw [expL]
            simp only [e2, e4, if_true]
            rw [if_pos c3, if_neg c4]
            simp at hsh
            by_cases hz : (a.drop (i + 2)).drop (j + 1) = []
            · have _t := hz
              have ha' := ha
              rw [hz] at ha'
              obtain ⟨n, rfl⟩ : ∃ k, n = k + 1 := ⟨n - 1, by omega⟩
              have hx : x = out ++ (a.take i ++ (V ((a.drop (i + 2)).take j)).2) := by
                rw [expL] at ha'
                have hcn : Lib.cut ([] : Bs) [36, 40] = ([], [], false) := by decide
                simp only [hcn] at ha'
                simp only [Bool.false_eq_true, if_false, List.append_nil] at ha'
                split at ha'
                · simp at ha'
                · simp only [Prod.mk.injEq] at ha'; exact ha'.2.symm
              rw [hz, List.nil_append]
              have hm2 : b.length < m := by simp at hm; omega
              have hbm := hb m hm2
              obtain ⟨m', rfl⟩ : ∃ k, m = k + 1 := ⟨m - 1, by omega⟩
              obtain ⟨z, ez, hz2⟩ := expL_acc m' _ _ _ hbm
              simp at ez
              subst ez
              rw [hz2 _ (by rw [← hx]; exact hxy), ← hx]
            · refine ih _ _ _ _ (by simp; omega) ha ?_ hb hxy m (by simp at hm ⊢; omega)
              intro hq
              apply hl
              rw [List.drop_drop] at hq hz
              have : a = a.take (i + 2 + (j + 1)) ++ a.drop (i + 2 + (j + 1)) := (List.take_append_drop _ _).symm
              rw [this, List.getLast?_append, hq]
              rfl
        · rename_i h2; simp at ha; exact absurd ha.1 h2
      · simp at ha
    · rename_i c1
      have c1' : (Lib.cut a [36, 40]).2.2 = false := by simpa using c1
      obtain ⟨hi, e1⟩ := cut_miss c1'
      rw [e1] at ha
      split at ha
      · simp at ha
      · rename_i c4
        simp only [Prod.mk.injEq, true_and] at ha
        subst ha
        have hbm := hb (m + 1) (by simp at hm; omega)
        obtain ⟨z, ez, hz⟩ := expL_acc m _ _ _ hbm
        simp at ez
        subst ez
        have hz' := hz (out ++ a) (by simpa using hxy)
        rw [← hz']
        have hx := index_tail (b := b) hi hl
        rw [expL, expL]
        by_cases hb1 : Lib.index b [36, 40] = -1
        · rw [hb1] at hx
          rw [cut_none (show Lib.index (a ++ b) [36, 40] = -1 by simpa using hx), cut_none hb1]
          simp [List.append_assoc]
        · obtain ⟨i, ei⟩ : ∃ i : Nat, Lib.index b [36, 40] = i := ⟨(Lib.index b [36, 40]).toNat, by have := Lib.index_ge b [36, 40]; omega⟩
          rw [ei] at hx
          have hx' : Lib.index (a ++ b) [36, 40] = ((a.length + i : Nat) : Int) := by
            rw [hx]
            have : ((i : Int) == -1) = false := by rw [beq_eq_false_iff_ne]; omega
            rw [this]
            simp [Int.add_comm]
          rw [cut_at hx', cut_at ei]
          have t1 : (a ++ b).take (a.length + i) = a ++ b.take i := by rw [List.take_append, List.take_of_length_le (by omega)]; simp
          have t2 : (a ++ b).drop (a.length + i + [36, (40 : UInt8)].length) = b.drop (i + [36, (40 : UInt8)].length) := by simp [List.drop_append, Nat.add_assoc]
          rw [t1, t2]
          simp only [List.append_assoc]
theorem expR_append (l : List (ByteArray × ByteArray)) (k : Nat) (a b x y : Bs) (ha : expR l k a = (0, x)) (hb : expR l k b = (0, y)) (hl : a.getLast? ≠ some 36) (hxy : x.length + y.length ≤ 600) : expR l k (a ++ b) = (0, x ++ y) :=
  expL_append b _ _ _ _ _ (by omega) ha hl (fun m hm => by rw [expL_fuel m (b.length + 1) _ _ hm (by omega)]; exact hb) hxy _ (by omega)
end laws
end Go.Proofs.Ytlkpbpecgdphaaa
namespace Go.Proofs.Ytlkpbpecgdphaaa
open Go.RowKit


def cutB (s : ByteArray) (p : Bs) : Bs × Bs × Bool := Lib.cut s.data.toList p
theorem below_drewN (w : World) (n : Nat) : Below w.heap.size w (w.drewN n) := by
  induction n with
  | zero => exact Below.refl _ _
  | succ n ih => exact ih.trans (Below.refl _ _).drew
end Go.Proofs.Ytlkpbpecgdphaaa
namespace Go.Proofs.Ytlkpbpecgdphaaa
open Go.RowKit

/-- Which text stands for a letter behind a dollar. -/
def autoV (v0 v1 v2 v3 : ByteArray) (c : UInt8) : Option ByteArray :=
  if c = 64 then some v0 else if c = 60 then some v1 else if c = 94 then some v2 else if c = 42 then some v3 else none
/-- What lookup finds at the head of a text. -/
def lookR (v0 v1 v2 v3 : ByteArray) (s : ByteArray) : Option ByteArray :=
  if h : 2 ≤ s.size then (if s[0] = 36 then autoV v0 v1 v2 v3 s[1] else none) else none
def lookV (r : Option ByteArray) : Value := match r with
  | some v => .tuple #[.string v, .int .i64 2, .bool true]
  | none => .tuple #[.string ⟨#[]⟩, .int .i64 0, .bool false]
section
variable {w w' : World} {G : Nat} {v0 v1 v2 v3 : ByteArray}
end
theorem mp5_lt (x : Nat) (h : x < 256) : ∃ m : Nat, mp5 x = m ∧ m ≤ 5 ∧ (m = 0 → x = 36) ∧ (m = 5 → x ∉ sq) := by
  by_cases hx : x ∈ sq
  · have hall : ∀ y ∈ sq, ∃ m : Nat, mp5 y = m ∧ m ≤ 5 ∧ (m = 0 → y = 36) ∧ (m = 5 → y ∉ sq) := by
      intro y hy
      simp only [sq, List.mem_cons, List.not_mem_nil, or_false] at hy
      rcases hy with rfl | rfl | rfl | rfl | rfl | rfl | rfl | rfl
      · exact ⟨0, mp5_36.1, by omega, fun _ => rfl, fun h => by omega⟩
      · exact ⟨3, mp5_36.2.2.2.1, by omega, fun h => by omega, fun h => by omega⟩
      · exact ⟨0, mp5_36.1, by omega, fun _ => rfl, fun h => by omega⟩
      · exact ⟨2, mp5_36.2.2.1, by omega, fun h => by omega, fun h => by omega⟩
      · exact ⟨0, mp5_36.1, by omega, fun _ => rfl, fun h => by omega⟩
      · exact ⟨4, mp5_36.2.2.2.2, by omega, fun h => by omega, fun h => by omega⟩
      · exact ⟨0, mp5_36.1, by omega, fun _ => rfl, fun h => by omega⟩
      · exact ⟨1, mp5_36.2.1, by omega, fun h => by omega, fun h => by omega⟩
    exact hall x hx
  · exact ⟨5, mp5_other x h hx, by omega, fun h => by omega, fun _ => hx⟩
theorem autoV_none {v0 v1 v2 v3 : ByteArray} {c : UInt8} (h : autoV v0 v1 v2 v3 c = none) : c.toNat = 36 ∨ c.toNat ∉ sq := by
  unfold autoV at h
  by_cases h36 : c.toNat = 36
  · exact .inl h36
  · refine .inr (fun hm => ?_)
    simp only [sq, List.mem_cons, List.not_mem_nil, or_false] at hm
    have key : ∀ d : UInt8, c.toNat = d.toNat → c = d := fun d e => UInt8.toNat_inj.1 e
    rcases hm with e | e | e | e | e | e | e | e
    · exact h36 e
    · rw [key 64 e] at h; simp at h
    · exact h36 e
    · rw [key 60 e] at h; simp at h
    · exact h36 e
    · rw [key 94 e] at h; simp at h
    · exact h36 e
    · rw [key 42 e] at h; simp at h

end Go.Proofs.Ytlkpbpecgdphaaa
namespace Go.Proofs.Ytlkpbpecgdphaaa
open Go.RowKit

def LkPost (v0 v1 v2 v3 s : ByteArray) (w : World) (e : Ending) (w' : World) : Prop := e = .returned (lookV (lookR v0 v1 v2 v3 s)) ∧ ∃ q, w' = w.drewN q
theorem empty_of {s : ByteArray} (h : s.size = 0) : s.toList.isEmpty = true := by rw [ByteArray.toList_eq]; have : s.data.toList.length = 0 := h; rw [List.length_eq_zero_iff.1 this]; rfl
theorem full_of {s : ByteArray} (h : ¬ s.size = 0) : s.toList.isEmpty = false := by
  rw [ByteArray.toList_eq]
  cases hl : s.data.toList with
  | nil => exact absurd (show s.size = 0 from by have : s.data.toList.length = 0 := by rw [hl]; rfl
                                                 simpa using this) h
  | cons a l => rfl
theorem lookR_none_of {v0 v1 v2 v3 s : ByteArray} (h : s.size < 2) : lookR v0 v1 v2 v3 s = none := by unfold lookR; rw [dif_neg (by omega)]

end Go.Proofs.Ytlkpbpecgdphaaa
namespace Go.Proofs.Ytlkpbpecgdphaaa
open Go.RowKit

abbrev tB : TypeId := 5
theorem strCells_append (a b : ByteArray) : Lib.strCells (a ++ b) = Lib.strCells a ++ Lib.strCells b := by simp [Lib.strCells]
end Go.Proofs.Ytlkpbpecgdphaaa
