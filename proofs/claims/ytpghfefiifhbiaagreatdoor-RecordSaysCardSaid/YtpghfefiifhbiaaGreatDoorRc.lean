/-
  PLAIN WORDS FOR NUMBERS IN TEXTS, under no condition on any program: digits, what they spell, the numeral of a number; what strconv.Atoi's plain function gives of digits.
-/
import Derived.Lib.ItoaNum
import Derived.Lib.AtoiAll
import Derived.Lib.SlTrimSet
namespace Go.Proofs.YtpghfefiifhbiaaGreatDoor
open Go

/-- Is a byte a digit? -/
def dg (c : UInt8) : Bool := decide (48 ≤ c.toNat) && decide (c.toNat ≤ 57)
/-- What digits spell. -/
def valF (a : Nat) (l : List UInt8) : Nat := l.foldl (fun a c => a * 10 + (c.toNat - 48)) a
abbrev val (l : List UInt8) : Nat := valF 0 l
/-- The numeral of a number. -/
abbrev numL (n : Nat) : List UInt8 := Lib.decDigits n

theorem dg_iff {c : UInt8} : dg c = true ↔ 48 ≤ c.toNat ∧ c.toNat ≤ 57 := by simp [dg]
theorem valF_nil (a : Nat) : valF a [] = a := rfl
theorem valF_cons (a : Nat) (c : UInt8) (l : List UInt8) : valF a (c :: l) = valF (a * 10 + (c.toNat - 48)) l := by simp only [valF, List.foldl_cons]
theorem valF_app (a : Nat) (l m : List UInt8) : valF a (l ++ m) = valF (valF a l) m := by simp [valF, List.foldl_append]
theorem valF_ge (l : List UInt8) : ∀ a, a ≤ valF a l := by
  induction l with
  | nil => intro a; exact Nat.le_refl _
  | cons c l ih => intro a; rw [valF_cons]; have := ih (a * 10 + (c.toNat - 48)); omega

theorem numL_eq (n : Nat) : numL n = if n < 10 then [UInt8.ofNat (48 + n)] else numL (n / 10) ++ [UInt8.ofNat (48 + n % 10)] := by
  rw [numL, Lib.decDigits]
  split <;> rfl
theorem numL_small {n : Nat} (h : n < 10) : numL n = [UInt8.ofNat (48 + n)] := by rw [numL_eq, if_pos h]
theorem numL_big {n : Nat} (h : ¬ n < 10) : numL n = numL (n / 10) ++ [UInt8.ofNat (48 + n % 10)] := by rw [numL_eq, if_neg h]
theorem ofNat_dg {k : Nat} (h : k < 10) : (UInt8.ofNat (48 + k)).toNat = 48 + k := by rw [UInt8.toNat_ofNat']; omega
theorem numL_dg (n : Nat) : ∀ c ∈ numL n, dg c = true := by
  induction n using Nat.strongRecOn with
  | ind n ih =>
    intro c hc
    by_cases h : n < 10
    · rw [numL_small h, List.mem_singleton] at hc
      rw [hc, dg_iff, ofNat_dg h]
      omega
    · rw [numL_big h, List.mem_append, List.mem_singleton] at hc
      rcases hc with hc | hc
      · exact ih (n / 10) (by omega) c hc
      · rw [hc, dg_iff, ofNat_dg (by omega)]
        omega
theorem numL_ne (n : Nat) : numL n ≠ [] := by
  by_cases h : n < 10
  · rw [numL_small h]; simp
  · rw [numL_big h]; simp
theorem val_numL (n : Nat) : val (numL n) = n := by
  induction n using Nat.strongRecOn with
  | ind n ih =>
    by_cases h : n < 10
    · rw [numL_small h, val, valF_cons, valF_nil, ofNat_dg h]; omega
    · have e := ih (n / 10) (by omega)
      rw [numL_big h, val, valF_app, show valF 0 (numL (n / 10)) = n / 10 from e, valF_cons, valF_nil, ofNat_dg (by omega)]
      omega
/-- A numeral of more than one digit does not begin with 0. -/
theorem numL_head (n : Nat) : ∃ c l, numL n = c :: l ∧ (c.toNat = 48 → l = []) := by
  induction n using Nat.strongRecOn with
  | ind n ih =>
    by_cases h : n < 10
    · exact ⟨_, [], numL_small h, fun _ => rfl⟩
    · obtain ⟨c, l, e, h0⟩ := ih (n / 10) (by omega)
      refine ⟨c, l ++ [UInt8.ofNat (48 + n % 10)], by rw [numL_big h, e]; rfl, fun hc => ?_⟩
      have hl := h0 hc
      subst hl
      have hv := val_numL (n / 10)
      rw [e, val, valF_cons, valF_nil] at hv
      omega
theorem numL_len {n : Nat} (h : n < 10 ^ 9) : (numL n).length ≤ 9 := by
  have key : ∀ (k n : Nat), n < 10 ^ (k + 1) → (numL n).length ≤ k + 1 := by
    intro k
    induction k with
    | zero => intro n hn; rw [numL_small (by omega)]; simp
    | succ k ih =>
      intro n hn
      by_cases h : n < 10
      · rw [numL_small h]; simp
      · have := ih (n / 10) (by rw [Nat.pow_succ] at hn; omega)
        rw [numL_big h, List.length_append, List.length_singleton]
        omega
  exact key 8 n h
/-- Digits that do not begin with 0 are the numeral of what they spell. -/
theorem numL_val : ∀ (l : List UInt8), l ≠ [] → (∀ c ∈ l, dg c = true) → (∀ c t, l = c :: t → c.toNat = 48 → t = []) → numL (val l) = l := by
  intro l
  induction hn : l.length generalizing l with
  | zero => intro h; exact absurd (List.eq_nil_of_length_eq_zero hn) h
  | succ k ih =>
    intro hne hd h0
    rcases List.eq_nil_or_concat l with rfl | ⟨m, x, rfl⟩
    · exact absurd rfl hne
    · rw [List.concat_eq_append] at hn hd h0 ⊢
      have hx := dg_iff.1 (hd x (by simp))
      have hxe : UInt8.ofNat (48 + (x.toNat - 48)) = x := by
        apply UInt8.toNat_inj.1
        rw [UInt8.toNat_ofNat']
        omega
      cases m with
      | nil =>
        rw [List.nil_append, val, valF_cons, valF_nil, numL_small (by omega)]
        rw [show 48 + (0 * 10 + (x.toNat - 48)) = 48 + (x.toNat - 48) by omega, hxe]
      | cons c t =>
        have hm := ih (c :: t) (by simpa using hn) (by simp) (fun y hy => hd y (by simp at hy ⊢; rcases hy with h | h <;> simp [h])) (fun y u e hy => by
          injection e with e1 e2
          have := h0 y (u ++ [x]) (by rw [e1, e2]; rfl) hy
          simp at this)
        have hv : 1 ≤ val (c :: t) := by
          have hc := dg_iff.1 (hd c (by simp))
          have hc0 : c.toNat ≠ 48 := fun e => by have := h0 c (t ++ [x]) rfl e; simp at this
          rw [val, valF_cons]
          have := valF_ge t (0 * 10 + (c.toNat - 48))
          omega
        have e : val (c :: t ++ [x]) = val (c :: t) * 10 + (x.toNat - 48) := by rw [val, valF_app, valF_cons, valF_nil]
        rw [e, numL_big (by omega), show (val (c :: t) * 10 + (x.toNat - 48)) / 10 = val (c :: t) by omega, show (val (c :: t) * 10 + (x.toNat - 48)) % 10 = x.toNat - 48 by omega, hm, hxe]

/-- A number at the head of a text: its digits are the numeral of a number of at most 'most'. -/
def numO (most : Nat) (s : List UInt8) : Option (Nat × List UInt8) :=
  if numL (val (s.takeWhile dg)) = s.takeWhile dg ∧ val (s.takeWhile dg) ≤ most then some (val (s.takeWhile dg), s.dropWhile dg) else none
theorem takeWhile_app {p : UInt8 → Bool} : ∀ {a b : List UInt8}, (∀ c ∈ a, p c = true) → (∀ c t, b = c :: t → p c = false) → (a ++ b).takeWhile p = a ∧ (a ++ b).dropWhile p = b
  | [], b, _, hb => by
    cases b with
    | nil => exact ⟨rfl, rfl⟩
    | cons c t => have := hb c t rfl; simp [this]
  | x :: a, b, ha, hb => by
    have hx := ha x (by simp)
    obtain ⟨h1, h2⟩ := takeWhile_app (a := a) (b := b) (fun c hc => ha c (by simp [hc])) hb
    simp [hx, h1, h2]
theorem numO_good {most n : Nat} {s : List UInt8} (h : n ≤ most) (hs : ∀ c t, s = c :: t → dg c = false) : numO most (numL n ++ s) = some (n, s) := by
  obtain ⟨h1, h2⟩ := takeWhile_app (numL_dg n) hs
  unfold numO
  rw [h1, h2, val_numL, if_pos ⟨rfl, h⟩]
theorem numO_some {most n : Nat} {s r : List UInt8} (h : numO most s = some (n, r)) : n ≤ most ∧ s = numL n ++ r ∧ ∀ c t, r = c :: t → dg c = false := by
  unfold numO at h
  split at h
  · rename_i hc
    injection h with h
    injection h with h1 h2
    subst h1 h2
    refine ⟨hc.2, by rw [hc.1, List.takeWhile_append_dropWhile], fun c t e => ?_⟩
    have := List.head?_dropWhile_not dg s
    rw [e] at this
    simpa using this
  · cases h
theorem numO_len {most n : Nat} {s r : List UInt8} (h : numO most s = some (n, r)) : r.length ≤ s.length := by
  obtain ⟨_, e, _⟩ := numO_some h
  rw [e, List.length_append]; omega

/-! strconv.Atoi's plain function at digits alone. -/
theorem pu_ok : ∀ (l : List UInt8) (a u : Nat), (∀ c ∈ l, dg c = true) → Lib.parseUint10 a l = .ok u → u = valF a l
  | [], a, u, _, h => by simp only [Lib.parseUint10] at h; injection h with h; exact h.symm
  | c :: l, a, u, hd, h => by
    have hc := dg_iff.1 (hd c (by simp))
    simp only [Lib.parseUint10, if_pos hc] at h
    split at h
    · cases h
    · split at h
      · cases h
      · exact pu_ok l _ u (fun x hx => hd x (by simp [hx])) h
theorem pu_range : ∀ (l : List UInt8) (a : Nat), (∀ c ∈ l, dg c = true) → Lib.parseUint10 a l = .range → 18446744073709551616 ≤ valF a l
  | [], a, _, h => by simp only [Lib.parseUint10] at h; cases h
  | c :: l, a, hd, h => by
    have hc := dg_iff.1 (hd c (by simp))
    simp only [Lib.parseUint10, if_pos hc] at h
    rw [valF_cons]
    have hg := valF_ge l (a * 10 + (c.toNat - 48))
    split at h
    · omega
    · split at h
      · omega
      · exact pu_range l _ (fun x hx => hd x (by simp [hx])) h
theorem pu_syntax : ∀ (l : List UInt8) (a : Nat), (∀ c ∈ l, dg c = true) → Lib.parseUint10 a l ≠ Lib.NumEnd.syntax
  | [], a, _ => by simp [Lib.parseUint10]
  | c :: l, a, hd => by
    have hc := dg_iff.1 (hd c (by simp))
    simp only [Lib.parseUint10, if_pos hc]
    split
    · simp
    · split
      · simp
      · exact pu_syntax l _ (fun x hx => hd x (by simp [hx]))
/-- What Atoi's plain function gives of digits. -/
theorem atoi_dg {l : List UInt8} (hd : ∀ c ∈ l, dg c = true) : (l = [] ∧ Lib.atoiAll l = Lib.NumEnd.syntax) ∨ (l ≠ [] ∧ val l < 9223372036854775808 ∧ Lib.atoiAll l = .ok (val l)) ∨ (l ≠ [] ∧ 9223372036854775808 ≤ val l ∧ Lib.atoiAll l = .range) := by
  cases l with
  | nil => exact .inl ⟨rfl, rfl⟩
  | cons c l =>
    have hc := dg_iff.1 (hd c (by simp))
    have h1 : ¬ (c.toNat = 43 ∨ c.toNat = 45) := by omega
    have h2 : ¬ c.toNat = 45 := by omega
    have hm : Lib.parseMag (c :: l) = Lib.parseUint10 0 (c :: l) := by unfold Lib.parseMag; rw [if_neg (by simp)]
    right
    unfold Lib.atoiAll
    simp only [if_neg h1, hm]
    rcases e : Lib.parseUint10 0 (c :: l) with u | _ | _
    · have hu := pu_ok _ _ _ hd e
      by_cases hb : 9223372036854775808 ≤ u
      · exact .inr ⟨by simp, by show _ ≤ valF 0 (c :: l); omega, by simp [h2, hb]⟩
      · have hv : valF 0 (c :: l) < 9223372036854775808 := by omega
        refine .inl ⟨by simp, hv, ?_⟩
        rw [hu]
        have hb2 : ¬ (9223372036854775808 ≤ valF 0 (c :: l)) := by omega
        simp [h2, hb2]
    · exact absurd e (pu_syntax _ _ hd)
    · have := pu_range _ _ hd e
      exact .inr ⟨by simp, by show _ ≤ valF 0 (c :: l); omega, rfl⟩
end Go.Proofs.YtpghfefiifhbiaaGreatDoor
