/-
  PLAIN WORDS FOR RECORDS, under no condition on any program: a record's text; what the program's reader gives of a text, step by step; what the document's reader gives; the two are the same; a text that was printed is read as it was.
-/
import Derived.Test.YtlkpbpecgdphaaaRc
import Derived.Test.YtlkpbpecgdphaaaMem
import Derived.Test.YtlkpbpecgdphaaaWr
namespace Go.Proofs.Ytlkpbpecgdphaaa
open Go

abbrev Rcd := List ByteArray × List F × List F
/-- " N:s" -/
def txL (s : ByteArray) : Bs := 32 :: (numL s.size ++ 58 :: s.data.toList)
def flL (f : F) : Bs := 32 :: (f.1.data.toList ++ txL f.2)
def hdL (a b c : Nat) : Bs := numL a ++ 32 :: (numL b ++ 32 :: numL c)
def recL (r : Rcd) : Bs := hdL r.1.length r.2.1.length r.2.2.length ++ (r.1.flatMap txL ++ (r.2.1.flatMap flL ++ r.2.2.flatMap flL))

def expO (c : UInt8) : Bs → Option Bs
  | [] => none
  | x :: s => if x = c then some s else none
def txO (most : Nat) (s : Bs) : Option (ByteArray × Bs) :=
  (expO 32 s).bind fun s1 => (numO most s1).bind fun p => (expO 58 p.2).bind fun s3 => if p.1 ≤ s3.length then some (ba (s3.take p.1), s3.drop p.1) else none
/-- Up to the first blank, and from there. -/
def upB (c : UInt8) (s : Bs) : Bs := s.takeWhile (fun x => x != c)
def frB (c : UInt8) (s : Bs) : Bs := s.dropWhile (fun x => x != c)
def flO (ok : ByteArray → Bool) (s : Bs) : Option (F × Bs) :=
  (expO 32 s).bind fun s1 => (txO 20 (frB 32 s1)).bind fun p => if ok (ba (upB 32 s1)) = true then some ((ba (upB 32 s1), p.1), p.2) else none
def manyO {α : Type} (p : Bs → Option (α × Bs)) : Nat → Bs → Option (List α × Bs)
  | 0, s => some ([], s)
  | k + 1, s => (manyO p k s).bind fun x => (p x.2).bind fun a => some (x.1 ++ [a.1], a.2)
def hdO (s : Bs) : Option (Nat × Nat × Nat × Bs) :=
  (numO 3 s).bind fun a => (expO 32 a.2).bind fun s1 => (numO 3 s1).bind fun b => (expO 32 b.2).bind fun s2 => (numO 2 s2).bind fun c => some (a.1, b.1, c.1, c.2)
def recO (ok : ByteArray → Bool) (s : Bs) : Option Rcd :=
  (hdO s).bind fun h => (manyO (txO 300) h.1 h.2.2.2).bind fun x => (manyO (flO ok) h.2.1 x.2).bind fun y => (manyO (flO ok) h.2.2.1 y.2).bind fun z => if z.2 = [] then some (x.1, y.1, z.1) else none

/-! The document's reader. -/
def wordO (c : UInt8) (s : Bs) : Option (Bs × Bs) := match frB c s with
  | [] => none
  | _ :: t => some (upB c s, t)
def natO (most : Nat) (w : Bs) : Option Nat := if numL (val w) = w ∧ val w ≤ most then some (val w) else none
def rnumO (c : UInt8) (most : Nat) (s : Bs) : Option (Nat × Bs) := (wordO c s).bind fun p => (natO most p.1).bind fun n => some (n, p.2)
def rtxO (most : Nat) (s : Bs) : Option (ByteArray × Bs) := (rnumO 58 most s).bind fun p => if p.2[p.1]? = some 32 then some (ba (p.2.take p.1), p.2.drop (p.1 + 1)) else none
def rflO (ok : ByteArray → Bool) (s : Bs) : Option (F × Bs) := (wordO 32 s).bind fun p => (rtxO 20 p.2).bind fun q => if ok (ba p.1) = true then some ((ba p.1, q.1), q.2) else none
def rhdO (s : Bs) : Option (Nat × Nat × Nat × Bs) := (rnumO 32 3 s).bind fun a => (rnumO 32 3 a.2).bind fun b => (rnumO 32 2 b.2).bind fun c => some (a.1, b.1, c.1, c.2)
def rrecO (ok : ByteArray → Bool) (s : Bs) : Option Rcd :=
  (rhdO (s ++ [32])).bind fun h => (manyO (rtxO 300) h.1 h.2.2.2).bind fun x => (manyO (rflO ok) h.2.1 x.2).bind fun y => (manyO (rflO ok) h.2.2.1 y.2).bind fun z => if z.2 = [] then some (x.1, y.1, z.1) else none

theorem up_app {c : UInt8} {a b : Bs} (ha : c ∉ a) : upB c (a ++ c :: b) = a ∧ frB c (a ++ c :: b) = c :: b := by
  unfold upB frB
  exact takeWhile_app (fun x hx => by simp; rintro rfl; exact ha hx) (fun x t e => by injection e with e1 e2; subst e1; simp)
theorem up_not (c : UInt8) (s : Bs) : c ∉ upB c s := by
  intro h
  have ha := List.all_takeWhile (p := fun x => x != c) (l := s)
  rw [List.all_eq_true] at ha
  have := ha c h
  simp at this
theorem up_fr (c : UInt8) (s : Bs) : upB c s ++ frB c s = s := List.takeWhile_append_dropWhile
/-- A text has the byte, or not. -/
theorem at_byte (c : UInt8) (s : Bs) : (∃ a b, s = a ++ c :: b ∧ c ∉ a) ∨ c ∉ s := by
  by_cases h : c ∈ s
  · obtain ⟨a, b, e, ha⟩ := List.append_of_mem h |> fun ⟨_, _, _⟩ => List.mem_iff_append.1 h |> fun _ => (by
      have e := up_fr c s
      cases hf : frB c s with
      | nil => rw [hf, List.append_nil] at e; rw [← e] at h; exact absurd h (up_not c s)
      | cons x t =>
        have hx : x = c := by
          have := List.head?_dropWhile_not (fun x => x != c) s
          unfold frB at hf
          rw [hf] at this
          simpa using this
        subst hx
        exact ⟨upB x s, t, by rw [hf] at e; exact e.symm, up_not _ s⟩ : ∃ a b, s = a ++ c :: b ∧ c ∉ a)
    exact .inl ⟨a, b, e, ha⟩
  · exact .inr h
theorem up_none {c : UInt8} {s : Bs} (h : c ∉ s) : upB c s = s ∧ frB c s = [] := by
  have := takeWhile_app (p := fun x => x != c) (a := s) (b := []) (fun x hx => by simp; rintro rfl; exact h hx) (fun _ _ e => by cases e)
  rw [List.append_nil] at this
  exact this
theorem word_at {c : UInt8} {a b : Bs} (ha : c ∉ a) : wordO c (a ++ c :: b) = some (a, b) := by
  obtain ⟨h1, h2⟩ := up_app (b := b) ha
  unfold wordO
  rw [h1, h2]
theorem word_none {c : UInt8} {s : Bs} (h : c ∉ s) : wordO c s = none := by
  unfold wordO
  rw [(up_none h).2]
theorem numL_no (n : Nat) {c : UInt8} (hc : dg c = false) : c ∉ numL n := fun h => by have := numL_dg n c h; rw [hc] at this; cases this
theorem natO_some {most n : Nat} {w : Bs} (h : natO most w = some n) : w = numL n ∧ n ≤ most := by
  unfold natO at h
  split at h
  · rename_i hc
    injection h with h
    subst h
    exact ⟨hc.1.symm, hc.2⟩
  · cases h
theorem natO_num {most n : Nat} (h : n ≤ most) : natO most (numL n) = some n := by unfold natO; rw [val_numL, if_pos ⟨rfl, h⟩]
/-- A number ahead of a byte that is no digit: the same in both readings. -/
theorem num_word {most : Nat} {c : UInt8} (hc : dg c = false) {w y : Bs} (hw : c ∉ w) :
    (numO most (w ++ c :: y)).bind (fun p => (expO c p.2).bind fun s => some (p.1, s)) = (natO most w).bind fun n => some (n, y) := by
  cases hn : natO most w with
  | some n =>
    obtain ⟨rfl, h⟩ := natO_some hn
    rw [numO_good h (fun x t e => by injection e with e1 e2; rw [← e1]; exact hc)]
    simp [expO]
  | none =>
    cases hm : numO most (w ++ c :: y) with
    | none => rfl
    | some p =>
      obtain ⟨n, z⟩ := p
      obtain ⟨h1, h2, h3⟩ := numO_some hm
      cases z with
      | nil => simp [expO]
      | cons x z =>
        by_cases hx : x = c
        · subst hx
          exfalso
          have e1 := (up_app (b := y) hw).1
          rw [h2, (up_app (b := z) (numL_no n hc)).1] at e1
          rw [← e1, natO_num h1] at hn
          cases hn
        · simp [expO, hx]
theorem num_noword {most : Nat} {c : UInt8} {s : Bs} (h : c ∉ s) : (numO most s).bind (fun p => (expO c p.2).bind fun s => some (p.1, s)) = none := by
  cases hm : numO most s with
  | none => rfl
  | some p =>
    obtain ⟨n, z⟩ := p
    obtain ⟨h1, h2, h3⟩ := numO_some hm
    cases z with
    | nil => rfl
    | cons x z =>
      have hx : x ≠ c := by rintro rfl; exact h (by rw [h2]; simp)
      simp [expO, hx]

/-- Where the two readers stand: the program ahead of a blank, the document's behind it. -/
def Bd (x r : Bs) : Prop := x ++ [32] = 32 :: r
/-- What the program cannot go on with. -/
def Dm (x : Bs) : Prop := ∃ c t, x = c :: t ∧ c ≠ 32
theorem Dm.exp {x : Bs} (h : Dm x) : expO 32 x = none := by
  obtain ⟨c, t, rfl, hc⟩ := h
  simp [expO, hc]
theorem Dm.tx {x : Bs} {most : Nat} (h : Dm x) : txO most x = none := by unfold txO; rw [h.exp]; rfl
theorem Dm.fl {x : Bs} {ok : ByteArray → Bool} (h : Dm x) : flO ok x = none := by unfold flO; rw [h.exp]; rfl
theorem Dm.ne {x : Bs} (h : Dm x) : x ≠ [] := by obtain ⟨c, t, rfl, _⟩ := h; simp
theorem Bd.cases {x r : Bs} (h : Bd x r) : (x = [] ∧ r = []) ∨ ∃ y, x = 32 :: y ∧ r = y ++ [32] := by
  unfold Bd at h
  cases x with
  | nil => left; refine ⟨rfl, ?_⟩; injection h with _ h; exact h.symm
  | cons c y => right; rw [List.cons_append] at h; injection h with h1 h2; exact ⟨y, by rw [h1], h2.symm⟩
theorem Bd.mk (y : Bs) : Bd (32 :: y) (y ++ [32]) := rfl
/-- Two readers of one thing: the document's gives what the program's gives, and both stand alike; or it gives nothing, and the program's gives nothing or cannot go on. -/
def Al {α : Type} (p q : Bs → Option (α × Bs)) : Prop :=
  ∀ x r, Bd x r → (∃ a x' r', p x = some (a, x') ∧ q r = some (a, r') ∧ Bd x' r') ∨ (q r = none ∧ (p x = none ∨ ∃ a x', p x = some (a, x') ∧ Dm x'))

theorem tx_eq (most : Nat) (y : Bs) : txO most (32 :: y) = ((numO most y).bind fun p => (expO 58 p.2).bind fun s => some (p.1, s)).bind fun p => if p.1 ≤ p.2.length then some (ba (p.2.take p.1), p.2.drop p.1) else none := by
  unfold txO
  rw [show expO 32 (32 :: y) = some y by simp [expO], Option.bind_some]
  cases numO most y with
  | none => rfl
  | some p =>
    rw [Option.bind_some, Option.bind_some]
    cases expO 58 p.2 <;> rfl
theorem al_tx (most : Nat) : Al (txO most) (rtxO most) := by
  intro x r h
  rcases h.cases with ⟨rfl, rfl⟩ | ⟨y, rfl, rfl⟩
  · right; exact ⟨by rfl, .inl rfl⟩
  · rw [tx_eq]
    rcases at_byte 58 y with ⟨w, z, rfl, hw⟩ | hno
    · rw [num_word (by decide) hw]
      have e1 : rtxO most ((w ++ 58 :: z) ++ [32]) = ((natO most w).bind fun n => some (n, z ++ [32])).bind fun p => if p.2[p.1]? = some 32 then some (ba (p.2.take p.1), p.2.drop (p.1 + 1)) else none := by
        unfold rtxO rnumO
        rw [show (w ++ 58 :: z) ++ [32] = w ++ 58 :: (z ++ [32]) by simp, word_at hw, Option.bind_some]
      rw [e1]
      cases natO most w with
      | none => right; exact ⟨rfl, .inl rfl⟩
      | some n =>
        simp only [Option.bind_some]
        rcases Nat.lt_trichotomy n z.length with hl | hl | hl
        · rw [List.getElem?_append_left hl, List.getElem?_eq_getElem hl, if_pos (Nat.le_of_lt hl)]
          have hd : z.drop n = z[n] :: z.drop (n + 1) := List.drop_eq_getElem_cons hl
          by_cases hz : z[n] = 32
          · left
            refine ⟨_, _, _, rfl, by rw [if_pos (by rw [hz]), List.take_append_of_le_length (Nat.le_of_lt hl)], ?_⟩
            rw [hd, hz, List.drop_append_of_le_length (by omega)]
            rfl
          · right
            refine ⟨by rw [if_neg (by simpa using hz)], .inr ⟨_, _, rfl, z[n], _, hd, hz⟩⟩
        · subst hl
          left
          refine ⟨_, _, [], by rw [if_pos (Nat.le_refl _)], ?_, ?_⟩
          · rw [if_pos (by simp)]; simp
          · rw [List.drop_length]; rfl
        · right
          refine ⟨by rw [if_neg (by rw [List.getElem?_eq_none (by simp; omega)]; simp)], .inl (by rw [if_neg (by omega)])⟩
    · right
      rw [num_noword hno]
      refine ⟨?_, .inl rfl⟩
      unfold rtxO rnumO
      rw [word_none (by simp [hno])]
      rfl
theorem al_fl (ok : ByteArray → Bool) : Al (flO ok) (rflO ok) := by
  intro x r h
  rcases h.cases with ⟨rfl, rfl⟩ | ⟨y, rfl, rfl⟩
  · right; exact ⟨by rfl, .inl rfl⟩
  · have e0 : flO ok (32 :: y) = (txO 20 (frB 32 y)).bind fun p => if ok (ba (upB 32 y)) = true then some ((ba (upB 32 y), p.1), p.2) else none := by
      unfold flO; rw [show expO 32 (32 :: y) = some y by simp [expO], Option.bind_some]
    rw [e0]
    rcases at_byte 32 y with ⟨w, z, rfl, hw⟩ | hno
    · obtain ⟨h1, h2⟩ := up_app (b := z) hw
      have e1 : rflO ok ((w ++ 32 :: z) ++ [32]) = (rtxO 20 (z ++ [32])).bind fun q => if ok (ba w) = true then some ((ba w, q.1), q.2) else none := by
        unfold rflO
        rw [show (w ++ 32 :: z) ++ [32] = w ++ 32 :: (z ++ [32]) by simp, word_at hw, Option.bind_some]
      rw [h1, h2, e1]
      rcases al_tx 20 _ _ (Bd.mk z) with ⟨a, x', r', g1, g2, g3⟩ | ⟨g1, g2⟩
      · rw [g1, g2]
        simp only [Option.bind_some]
        by_cases hk : ok (ba w) = true
        · left; exact ⟨_, _, _, if_pos hk, if_pos hk, g3⟩
        · right; rw [if_neg hk, if_neg hk]; exact ⟨rfl, .inl rfl⟩
      · right
        rw [g1]
        refine ⟨rfl, ?_⟩
        rcases g2 with g2 | ⟨a, x', g2, g3⟩
        · rw [g2]; exact .inl rfl
        · rw [g2]
          simp only [Option.bind_some]
          by_cases hk : ok (ba w) = true
          · rw [if_pos hk]; exact .inr ⟨_, _, rfl, g3⟩
          · rw [if_neg hk]; exact .inl rfl
    · obtain ⟨h1, h2⟩ := up_none hno
      right
      rw [h2]
      refine ⟨?_, .inl rfl⟩
      unfold rflO
      rw [word_at hno, Option.bind_some]
      rfl
theorem al_many {α : Type} {p q : Bs → Option (α × Bs)} (hal : Al p q) (hdm : ∀ x, Dm x → p x = none) : ∀ k, Al (manyO p k) (manyO q k)
  | 0, x, r, h => .inl ⟨_, _, _, rfl, rfl, h⟩
  | k + 1, x, r, h => by
    unfold manyO
    rcases al_many hal hdm k x r h with ⟨a, x', r', g1, g2, g3⟩ | ⟨g1, g2⟩
    · rw [g1, g2]
      simp only [Option.bind_some]
      rcases hal x' r' g3 with ⟨b, x2, r2, k1, k2, k3⟩ | ⟨k1, k2⟩
      · rw [k1, k2]; exact .inl ⟨_, _, _, rfl, rfl, k3⟩
      · right
        rw [k1]
        refine ⟨rfl, ?_⟩
        rcases k2 with k2 | ⟨b, x2, k2, k3⟩
        · rw [k2]; exact .inl rfl
        · rw [k2]; exact .inr ⟨_, _, rfl, k3⟩
    · right
      rw [g1]
      refine ⟨rfl, .inl ?_⟩
      rcases g2 with g2 | ⟨a, x', g2, g3⟩
      · rw [g2]; rfl
      · rw [g2, Option.bind_some, hdm _ g3]; rfl
theorem many_dm {α : Type} {p : Bs → Option (α × Bs)} (hdm : ∀ x, Dm x → p x = none) {k : Nat} {x : Bs} (h : Dm x) : manyO p k x = none ∨ manyO p k x = some ([], x) := by
  induction k with
  | zero => exact .inr rfl
  | succ k ih =>
    left
    unfold manyO
    rcases ih with e | e
    · rw [e]; rfl
    · rw [e, Option.bind_some, hdm x h]; rfl
theorem rest_dm (ok : ByteArray → Bool) (a b c : Nat) {x : Bs} (h : Dm x) :
    ((manyO (txO 300) a x).bind fun x => (manyO (flO ok) b x.2).bind fun y => (manyO (flO ok) c y.2).bind fun z => if z.2 = [] then some (x.1, y.1, z.1) else none) = (none : Option Rcd) := by
  rcases many_dm (fun x h => Dm.tx (most := 300) h) (k := a) h with e | e
  · rw [e]; rfl
  · rw [e, Option.bind_some]
    rcases many_dm (fun x h => Dm.fl (ok := ok) h) (k := b) h with e | e
    · rw [e]; rfl
    · rw [e, Option.bind_some]
      rcases many_dm (fun x h => Dm.fl (ok := ok) h) (k := c) h with e | e
      · rw [e]; rfl
      · rw [e, Option.bind_some, if_neg h.ne]
/-- The heads of both readers. -/
theorem hd_al (s : Bs) : (∃ a b c x r, hdO s = some (a, b, c, x) ∧ rhdO (s ++ [32]) = some (a, b, c, r) ∧ Bd x r) ∨ (rhdO (s ++ [32]) = none ∧ (hdO s = none ∨ ∃ a b c x, hdO s = some (a, b, c, x) ∧ Dm x)) := by
  have step : ∀ most s, (∃ n y, (numO most s).bind (fun p => (expO 32 p.2).bind fun s => some (p.1, s)) = some (n, y) ∧ rnumO 32 most (s ++ [32]) = some (n, y ++ [32])) ∨ ((numO most s).bind (fun p => (expO 32 p.2).bind fun s => some (p.1, s)) = none ∧ (rnumO 32 most (s ++ [32]) = none ∨ ∃ n, rnumO 32 most (s ++ [32]) = some (n, []))) := by
    intro most s
    rcases at_byte 32 s with ⟨w, y, rfl, hw⟩ | hno
    · rw [num_word (by decide) hw]
      have e : rnumO 32 most ((w ++ 32 :: y) ++ [32]) = (natO most w).bind fun n => some (n, y ++ [32]) := by
        unfold rnumO
        rw [show (w ++ 32 :: y) ++ [32] = w ++ 32 :: (y ++ [32]) by simp, word_at hw, Option.bind_some]
      rw [e]
      cases natO most w with
      | none => exact .inr ⟨rfl, .inl rfl⟩
      | some n => exact .inl ⟨n, y, rfl, rfl⟩
    · rw [num_noword hno]
      right
      refine ⟨rfl, ?_⟩
      unfold rnumO
      rw [word_at hno, Option.bind_some]
      cases natO most s with
      | none => exact .inl rfl
      | some n => exact .inr ⟨n, rfl⟩
  have hnil : ∀ most, rnumO 32 most [] = none := fun _ => rfl
  have e : hdO s = ((numO 3 s).bind (fun p => (expO 32 p.2).bind fun s => some (p.1, s))).bind fun a => ((numO 3 a.2).bind (fun p => (expO 32 p.2).bind fun s => some (p.1, s))).bind fun b => (numO 2 b.2).bind fun c => some (a.1, b.1, c.1, c.2) := by
    unfold hdO
    cases numO 3 s with
    | none => rfl
    | some a =>
      simp only [Option.bind_some]
      cases expO 32 a.2 with
      | none => rfl
      | some s1 =>
        simp only [Option.bind_some]
        cases numO 3 s1 with
        | none => rfl
        | some b =>
          simp only [Option.bind_some]
          cases expO 32 b.2 <;> rfl
  rw [e]
  unfold rhdO
  rcases step 3 s with ⟨a, y, e1, e2⟩ | ⟨e1, e2⟩
  · rw [e1, e2]
    simp only [Option.bind_some]
    rcases step 3 y with ⟨b, z, g1, g2⟩ | ⟨g1, g2⟩
    · rw [g1, g2]
      simp only [Option.bind_some]
      rcases at_byte 32 z with ⟨w, u, rfl, hw⟩ | hno
      · have e3 : rnumO 32 2 ((w ++ 32 :: u) ++ [32]) = (natO 2 w).bind fun n => some (n, u ++ [32]) := by
          unfold rnumO
          rw [show (w ++ 32 :: u) ++ [32] = w ++ 32 :: (u ++ [32]) by simp, word_at hw, Option.bind_some]
        rw [e3]
        cases hn : natO 2 w with
        | some n =>
          obtain ⟨rfl, hle⟩ := natO_some hn
          left
          rw [numO_good hle (fun x t e => by injection e with e1 e2; rw [← e1]; decide)]
          exact ⟨a, b, n, _, _, rfl, rfl, Bd.mk u⟩
        | none =>
          right
          refine ⟨rfl, ?_⟩
          have hk := num_word (most := 2) (c := 32) (by decide) (y := u) hw
          rw [hn] at hk
          cases hm : numO 2 (w ++ 32 :: u) with
          | none => exact .inl rfl
          | some p =>
            obtain ⟨n, q⟩ := p
            refine .inr ⟨a, b, n, q, rfl, ?_⟩
            rw [hm] at hk
            obtain ⟨_, hq, _⟩ := numO_some hm
            cases q with
            | nil =>
              exfalso
              rw [List.append_nil] at hq
              exact numL_no n (c := 32) (by decide) (by rw [← hq]; simp)
            | cons x q =>
              refine ⟨x, q, rfl, fun hx => ?_⟩
              subst hx
              simp [expO] at hk
      · have e3 : rnumO 32 2 (z ++ [32]) = (natO 2 z).bind fun n => some (n, []) := by
          unfold rnumO
          rw [word_at hno, Option.bind_some]
        rw [e3]
        cases hn : natO 2 z with
        | some n =>
          obtain ⟨rfl, hle⟩ := natO_some hn
          left
          have := numO_good (s := []) hle (fun x t e => by cases e)
          rw [List.append_nil] at this
          rw [this]
          exact ⟨a, b, n, _, _, rfl, rfl, rfl⟩
        | none =>
          right
          refine ⟨rfl, ?_⟩
          cases hm : numO 2 z with
          | none => exact .inl rfl
          | some p =>
            obtain ⟨n, q⟩ := p
            refine .inr ⟨a, b, n, q, rfl, ?_⟩
            obtain ⟨hle, hq, _⟩ := numO_some hm
            cases q with
            | nil =>
              exfalso
              rw [List.append_nil] at hq
              rw [hq, natO_num hle] at hn
              cases hn
            | cons x q =>
              refine ⟨x, q, rfl, fun hx => ?_⟩
              subst hx
              exact hno (by rw [hq]; simp)
    · rw [g1]
      right
      refine ⟨?_, .inl rfl⟩
      rcases g2 with g2 | ⟨n, g2⟩
      · rw [g2]; rfl
      · rw [g2]; rfl
  · rw [e1]
    right
    refine ⟨?_, .inl rfl⟩
    rcases e2 with e2 | ⟨n, e2⟩
    · rw [e2]; rfl
    · rw [e2]; rfl
/-- The two readers give the same. -/
theorem rec_same (ok : ByteArray → Bool) (s : Bs) : rrecO ok s = recO ok s := by
  unfold rrecO recO
  rcases hd_al s with ⟨a, b, c, x, r, e1, e2, hb⟩ | ⟨e1, e2⟩
  · rw [e1, e2]
    simp only [Option.bind_some]
    rcases al_many (al_tx 300) (fun _ h => h.tx) a x r hb with ⟨l1, x1, r1, g1, g2, hb1⟩ | ⟨g1, g2⟩
    · rw [g1, g2]
      simp only [Option.bind_some]
      rcases al_many (al_fl ok) (fun _ h => h.fl) b x1 r1 hb1 with ⟨l2, x2, r2, k1, k2, hb2⟩ | ⟨k1, k2⟩
      · rw [k1, k2]
        simp only [Option.bind_some]
        rcases al_many (al_fl ok) (fun _ h => h.fl) c x2 r2 hb2 with ⟨l3, x3, r3, m1, m2, hb3⟩ | ⟨m1, m2⟩
        · rw [m1, m2]
          simp only [Option.bind_some]
          rcases hb3.cases with ⟨rfl, rfl⟩ | ⟨y, rfl, rfl⟩
          · rfl
          · rw [if_neg (by simp), if_neg (by simp)]
        · rw [m1]
          rcases m2 with m2 | ⟨l, x', m2, hd⟩
          · rw [m2]
          · rw [m2, Option.bind_some, if_neg hd.ne, Option.bind_none]
      · rw [k1]
        rcases k2 with k2 | ⟨l, x', k2, hd⟩
        · rw [k2]; rfl
        · rw [k2, Option.bind_some]
          rcases many_dm (fun x h => Dm.fl (ok := ok) h) (k := c) hd with e | e
          · rw [e]; rfl
          · rw [e, Option.bind_some, if_neg hd.ne]; rfl
    · rw [g1]
      rcases g2 with g2 | ⟨l, x', g2, hd⟩
      · rw [g2]; rfl
      · rw [g2, Option.bind_some]
        rcases many_dm (fun x h => Dm.fl (ok := ok) h) (k := b) hd with e | e
        · rw [e]; rfl
        · rw [e, Option.bind_some]
          rcases many_dm (fun x h => Dm.fl (ok := ok) h) (k := c) hd with e | e
          · rw [e]; rfl
          · rw [e, Option.bind_some, if_neg hd.ne]; rfl
  · rw [e1]
    rcases e2 with e2 | ⟨a, b, c, x, e2, hd⟩
    · rw [e2]; rfl
    · rw [e2, Option.bind_some, rest_dm ok a b c hd]; rfl

/-! What was printed is read as it was. -/
def NoDg (s : Bs) : Prop := ∀ c t, s = c :: t → dg c = false
theorem tx_read {most : Nat} {s : ByteArray} (h : s.size ≤ most) (t : Bs) : txO most (txL s ++ t) = some (s, t) := by
  have e : txL s ++ t = 32 :: (numL s.size ++ 58 :: (s.data.toList ++ t)) := by simp [txL]
  have hl : s.data.toList.length = s.size := by simp
  rw [e, tx_eq, numO_good h (fun c u e => by injection e with e1 e2; rw [← e1]; decide)]
  simp only [Option.bind_some, expO, if_true]
  rw [if_pos (by rw [List.length_append]; omega)]
  have e2 : (s.data.toList ++ t).take s.size = s.data.toList := by rw [← hl]; exact List.take_left
  have e3 : (s.data.toList ++ t).drop s.size = t := by rw [← hl]; exact List.drop_left
  rw [e2, e3, ba_of]
theorem fl_read {ok : ByteArray → Bool} {f : F} (h : f.2.size ≤ 20) (hk : ok f.1 = true) (hb : (32 : UInt8) ∉ f.1.data.toList) (t : Bs) : flO ok (flL f ++ t) = some (f, t) := by
  have e : flL f ++ t = 32 :: (f.1.data.toList ++ 32 :: ((numL f.2.size ++ 58 :: f.2.data.toList) ++ t)) := by simp [flL, txL]
  obtain ⟨h1, h2⟩ := up_app (b := (numL f.2.size ++ 58 :: f.2.data.toList) ++ t) hb
  have e2 : (32 : UInt8) :: ((numL f.2.size ++ 58 :: f.2.data.toList) ++ t) = txL f.2 ++ t := by simp [txL]
  rw [e]
  unfold flO
  rw [show ∀ s : Bs, expO 32 (32 :: s) = some s from fun s => by simp [expO], Option.bind_some, h1, h2, e2, tx_read h, Option.bind_some, ba_of, if_pos hk]
theorem many_read {α : Type} {p : Bs → Option (α × Bs)} {g : α → Bs} (l : List α) (hp : ∀ a ∈ l, ∀ t, p (g a ++ t) = some (a, t)) (t : Bs) : manyO p l.length (l.flatMap g ++ t) = some (l, t) := by
  have key : ∀ k, k ≤ l.length → manyO p k (l.flatMap g ++ t) = some (l.take k, (l.drop k).flatMap g ++ t) := by
    intro k
    induction k with
    | zero => intro _; rfl
    | succ k ih =>
      intro hk
      unfold manyO
      rw [ih (by omega), Option.bind_some]
      have hd : l.drop k = l[k] :: l.drop (k + 1) := List.drop_eq_getElem_cons (by omega)
      rw [hd, List.flatMap_cons, List.append_assoc, hp _ (List.getElem_mem _), Option.bind_some, List.take_succ_eq_append_getElem (by omega)]
  have := key l.length (Nat.le_refl _)
  rw [List.take_length, List.drop_length] at this
  simpa using this
/-- A record that may be. -/
def RecOk (ok : ByteArray → Bool) (r : Rcd) : Prop := r.1.length ≤ 3 ∧ r.2.1.length ≤ 3 ∧ r.2.2.length ≤ 2 ∧ (∀ s ∈ r.1, s.size ≤ 300) ∧ ∀ f ∈ r.2.1 ++ r.2.2, f.2.size ≤ 20 ∧ ok f.1 = true ∧ (32 : UInt8) ∉ f.1.data.toList
theorem body_nodg {α : Type} (g : α → Bs) (hg : ∀ a, ∃ t, g a = 32 :: t) (l : List α) {t : Bs} (ht : NoDg t) : NoDg (l.flatMap g ++ t) := by
  cases l with
  | nil => exact ht
  | cons a l =>
    obtain ⟨u, hu⟩ := hg a
    intro c v e
    rw [List.flatMap_cons, hu] at e
    injection e with e1 e2
    rw [← e1]; decide
theorem rec_read (ok : ByteArray → Bool) (r : Rcd) (h : RecOk ok r) : recO ok (recL r) = some r := by
  obtain ⟨h1, h2, h3, h4, h5⟩ := h
  obtain ⟨cs, ns, os⟩ := r
  simp only at h1 h2 h3 h4 h5
  have n1 : NoDg (os.flatMap flL ++ []) := body_nodg flL (fun f => ⟨_, rfl⟩) os (fun _ _ e => by cases e)
  rw [List.append_nil] at n1
  have n2 : NoDg (ns.flatMap flL ++ os.flatMap flL) := body_nodg flL (fun f => ⟨_, rfl⟩) ns n1
  have n3 : NoDg (cs.flatMap txL ++ (ns.flatMap flL ++ os.flatMap flL)) := body_nodg txL (fun f => ⟨_, rfl⟩) cs n2
  have hhd : hdO (recL (cs, ns, os)) = some (cs.length, ns.length, os.length, cs.flatMap txL ++ (ns.flatMap flL ++ os.flatMap flL)) := by
    unfold hdO
    have e : recL (cs, ns, os) = numL cs.length ++ 32 :: (numL ns.length ++ 32 :: (numL os.length ++ (cs.flatMap txL ++ (ns.flatMap flL ++ os.flatMap flL)))) := by simp [recL, hdL]
    rw [e, numO_good h1 (fun c u e => by injection e with e1 e2; rw [← e1]; decide)]
    simp only [Option.bind_some, expO, if_true]
    rw [numO_good h2 (fun c u e => by injection e with e1 e2; rw [← e1]; decide)]
    simp only [Option.bind_some, if_true]
    rw [numO_good h3 n3]
    rfl
  unfold recO
  rw [hhd, Option.bind_some]
  rw [many_read cs (fun s hs t => tx_read (h4 s hs) t), Option.bind_some, many_read ns (fun f hf t => (fun hh => fl_read hh.1 hh.2.1 hh.2.2 t) (h5 f (by simp [hf]))), Option.bind_some]
  have := many_read os (fun f hf t => (fun hh => fl_read (ok := ok) hh.1 hh.2.1 hh.2.2 t) (h5 f (by simp [hf]))) []
  rw [List.append_nil] at this
  rw [this]
  rfl
end Go.Proofs.Ytlkpbpecgdphaaa
