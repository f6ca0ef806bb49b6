/-
  PLAIN WORDS FOR NUMBERS IN TEXTS, under no condition on any program: digits, what they spell, the numeral of a number; what strconv.Atoi's plain function gives of digits.
-/
import Derived.Test.YtlkpbpecgdphaaaGw
import Derived.Test.YtlkpbpecgdphaaaSpn
import Derived.Test.YtlkpbpecgdphaaaParse
import Derived.Test.YtlkpbpecgdphaaaSet
import Derived.Test.YtlkpbpecgdphaaaLight
import Derived.Lib.ItoaNum
import Derived.Lib.AtoiAll
import Derived.Lib.SlTrimSet
namespace Go.Proofs.Ytlkpbpecgdphaaa
open Go.RowKit

theorem GpOwn.parts {w : World} {B : Nat} {a b c : Value} {ph : Bool} {g : Gp} (h : GpOwn w B (.agg #[a, b, c, .bool ph]) g) : Own1 w B a g.tg ∧ Own1 w B b g.nd ∧ Own1 w B c g.cm ∧ ph = g.ph := by
  obtain ⟨a', b', c', e, h1, h2, h3⟩ := h
  simp only [Value.agg.injEq, Array.mk.injEq, List.cons.injEq, Value.bool.injEq, and_true] at e
  obtain ⟨rfl, rfl, rfl, e4⟩ := e
  exact ⟨h1, h2, h3, e4⟩
theorem grp_sizes {m : Mk} {l : List F} {name : ByteArray} {g : Gp} (hL : Lim m) (hn : name.size ≤ 1000) (h : grpR m l name = some g) : g.tg.length ≤ 10 ∧ g.nd.length ≤ 10 ∧ ∀ x ∈ g.tg, x.size ≤ 2000 := by
  rcases grp_cases h with ⟨r, hr, rfl, _⟩ | ⟨_, r, hr, rfl, _⟩
  · exact ⟨hL.tgs r hr, hL.nds r hr, fun x hx => Nat.le_trans (hL.tsz r hr x hx) (by omega)⟩
  · refine ⟨by show [name].length ≤ 10; simp, ?_, fun x hx => ?_⟩
    · show (fillR r.2.1 _).length ≤ 10
      unfold fillR; rw [List.length_map]; exact hL.nds r hr
    · rw [List.mem_singleton.1 hx]; omega
end Go.Proofs.Ytlkpbpecgdphaaa
namespace Go.Proofs.Ytlkpbpecgdphaaa
open Go.RowKit

/-- What graph.Of gives: an error's number, and groups if it is 0. -/
def graphR (m : Mk) (l : List F) (goal : ByteArray) : Nat × List Gp :=
  if nameB goal = true then (if (visitR m l ((univ m l goal).length + 1) goal [] []).1 = 0 then visitR m l ((univ m l goal).length + 1) goal [] [] else ((visitR m l ((univ m l goal).length + 1) goal [] []).1, [])) else (3, [])
/-- Groups in a slice of one's own. -/
structure GpS (w : World) (A : Option Addr) (n c : Nat) (out : List Gp) : Prop where
  ex : ∃ R4, GpRd w A n c out R4
theorem GpRd.nil (w : World) : GpRd w none 0 0 [] [] := ⟨⟨rfl, Nat.le_refl _, Nat.zero_le _, fun h => by omega⟩, rfl, fun i x g h => by simp at h⟩
theorem univ_len {m : Mk} {l : List F} {goal : ByteArray} (hL : Lim m) (hl : l.length ≤ 10000) : (univ m l goal).length ≤ 30001 := by
  unfold univ
  have key : ∀ rs : List Ru, (∀ r ∈ rs, r.1.length ≤ 10 ∧ r.2.1.length ≤ 10) → (rs.flatMap (fun r => r.1 ++ r.2.1)).length ≤ rs.length * 20 := by
    intro rs
    induction rs with
    | nil => simp
    | cons r rs ih =>
      intro h
      have h1 := h r (by simp)
      have h2 := ih (fun r hr => h r (by simp [hr]))
      rw [List.flatMap_cons, List.length_append, List.length_append, List.length_cons]
      omega
  have h1 := key m.rules (fun r hr => ⟨hL.tgs r hr, hL.nds r hr⟩)
  have h2 := hL.rules
  rw [List.length_cons, List.length_append, List.length_map]
  omega
theorem univ_size {m : Mk} {l : List F} {goal : ByteArray} (hL : Lim m) (hg : goal.size ≤ 1000) (hf : ∀ f ∈ l, f.1.size ≤ 1000) : ∀ x ∈ univ m l goal, x.size ≤ 1000 := by
  intro x hx
  unfold univ at hx
  rcases List.mem_cons.1 hx with rfl | hx
  · exact hg
  rcases List.mem_append.1 hx with hx | hx
  · obtain ⟨f, hfm, rfl⟩ := List.mem_map.1 hx
    exact hf f hfm
  · obtain ⟨r, hr, hx⟩ := List.mem_flatMap.1 hx
    rcases List.mem_append.1 hx with hx | hx
    · exact hL.tsz r hr x hx
    · exact hL.nsz r hr x hx
end Go.Proofs.Ytlkpbpecgdphaaa
namespace Go.Proofs.Ytlkpbpecgdphaaa
open Go

theorem linesR_sane3 (l : List ByteArray) (h : ∀ x ∈ l, x.size ≤ 600) : ∀ (m : Mk) (k : Nat), Sane m k → Sane (linesR m l).2 (k + l.length) := by
  induction l with
  | nil => intro m k hs; exact hs
  | cons x l ih =>
    intro m k hs
    have h1 := hs.line x (h x (by simp))
    rw [linesR]
    split
    · have := ih (fun y hy => h y (by simp [hy])) _ _ h1
      simpa [Nat.add_assoc, Nat.add_comm 1] using this
    · exact h1.mono (by simp)
theorem parse_sane3 (s : ByteArray) : Sane (parseR s).2 700 := by
  unfold parseR
  split
  · exact sane0.mono (by omega)
  · rename_i h6
    split
    · exact sane0.mono (by omega)
    · split
      · have h1 := linesR_sane3 (lines s) (fun x hx => by have := lines_size hx; omega) mk0 0 sane0
        have h2 := lines_len s
        exact h1.mono (by omega)
      · exact sane0.mono (by omega)
/-- How the rules and phony names of a description look while it is read. -/
structure Shp (m : Mk) : Prop where
  ne : ∀ r ∈ m.rules, r.1 ≠ []
  shp : ∀ r ∈ m.rules, shapedR r.1 r.2.1 = true
  cmd : ∀ r ∈ m.rules, ∀ c ∈ r.2.2, c.size ≤ 28
  pho : ∀ x ∈ m.phony, nameB x = true
theorem shp0 : Shp mk0 := ⟨by simp [mk0], by simp [mk0], by simp [mk0], by simp [mk0]⟩
theorem moreCmd_mem2 {l : List Ru} {c : ByteArray} : ∀ r ∈ moreCmd l c, ∃ q ∈ l, r.1 = q.1 ∧ r.2.1 = q.2.1 ∧ ∀ x ∈ r.2.2, x ∈ q.2.2 ∨ x = c := by
  fun_induction moreCmd l c with
  | case1 => simp
  | case2 r c =>
    intro x hx
    simp at hx
    subst hx
    exact ⟨r, by simp, rfl, rfl, fun y hy => by simpa using hy⟩
  | case3 r s l c ih =>
    intro x hx
    rcases List.mem_cons.1 hx with rfl | hx
    · exact ⟨x, by simp, rfl, rfl, fun y hy => .inl hy⟩
    · obtain ⟨q, hq, h⟩ := ih x hx
      exact ⟨q, List.mem_cons_of_mem _ hq, h⟩
theorem Shp.line {m : Mk} (h : Shp m) (s : ByteArray) : Shp (lineR m s).2 := by
  unfold lineR
  split
  · exact h
  · split
    · unfold cmdR
      split
      · exact h
      · split
        · exact h
        · split
          · exact h
          · rename_i hc
            have key := fun r hr => moreCmd_mem2 (l := m.rules) (c := ba (expR m.vars 5 (s.extract 1 s.size).data.toList).2) r hr
            refine ⟨fun r hr => ?_, fun r hr => ?_, fun r hr c hcm => ?_, h.pho⟩
            · obtain ⟨q, hq, e1, _⟩ := key r hr
              rw [e1]; exact h.ne q hq
            · obtain ⟨q, hq, e1, e2, _⟩ := key r hr
              rw [e1, e2]; exact h.shp q hq
            · obtain ⟨q, hq, _, _, e3⟩ := key r hr
              rcases e3 c hcm with h1 | h1
              · exact h.cmd q hq c h1
              · rw [h1, ba_size]; omega
    · split
      · unfold phonyR
        split
        · exact h
        · rename_i hp
          refine ⟨h.ne, h.shp, h.cmd, fun x hx => ?_⟩
          rcases List.mem_append.1 hx with hx | hx
          · exact h.pho x hx
          · simp at hx
            subst hx
            cases hn : nameB (s.extract 6 s.size) with
            | true => rfl
            | false => exact absurd (.inl hn) hp
      · split
        · unfold varR
          split
          · exact h
          · split
            · exact h
            · exact ⟨h.ne, h.shp, h.cmd, h.pho⟩
        · unfold ruleR
          split
          · exact h
          · unfold headR
            split
            · exact h
            · rename_i h0
              split
              · exact h
              · split
                · exact h
                · rename_i h2
                  refine ⟨fun r hr => ?_, fun r hr => ?_, fun r hr => ?_, h.pho⟩
                  · rcases List.mem_append.1 hr with hr | hr
                    · exact h.ne r hr
                    · simp at hr; subst hr
                      intro e
                      exact h0 (.inr (by rw [show wordsR (Lib.cut (expR m.vars 5 s.data.toList).2 [58]).1 = [] from e]; rfl))
                  · rcases List.mem_append.1 hr with hr | hr
                    · exact h.shp r hr
                    · simp at hr; subst hr
                      simpa using h2
                  · rcases List.mem_append.1 hr with hr | hr
                    · exact h.cmd r hr
                    · simp at hr; subst hr
                      simp
theorem linesR_shp : ∀ (l : List ByteArray) (m : Mk), Shp m → Shp (linesR m l).2 := by
  intro l
  induction l with
  | nil => exact fun m h => h
  | cons x l ih =>
    intro m h
    rw [linesR]
    split
    · exact ih _ (h.line x)
    · exact h.line x
theorem parse_shp (s : ByteArray) : Shp (parseR s).2 := by
  unfold parseR
  split
  · exact shp0
  · split
    · exact shp0
    · split
      · exact linesR_shp _ _ shp0
      · exact shp0
theorem shaped_word {T N : List ByteArray} (h : shapedR T N = true) : ∀ x ∈ T ++ N, nameB (onceR x) = true := by
  intro x hx
  unfold shapedR at h
  rw [Bool.and_eq_true] at h
  obtain ⟨i, hi, e⟩ := List.mem_iff_getElem.1 hx
  have := List.all_eq_true.1 h.2 i (List.mem_range.2 hi)
  rw [List.getElem?_eq_getElem hi, e] at this
  unfold wordOk at this
  rw [Bool.and_eq_true, Bool.and_eq_true] at this
  exact this.1.1
theorem nameB_size {x : ByteArray} (h : nameB x = true) : x.size ≤ 8 := by
  rcases Nat.lt_or_ge 8 x.size with h1 | h1
  · rw [nameB_short (.inr h1)] at h; cases h
  · exact h1
theorem shaped_size {T N : List ByteArray} (h : shapedR T N = true) : ∀ x ∈ T ++ N, x.size ≤ 8 := fun x hx => by
  have := nameB_size (shaped_word h x hx)
  rwa [onceR_size] at this
theorem parse_lim (s : ByteArray) : Lim (parseR s).2 := by
  have h1 := parse_sane3 s
  have h2 := parse_shp s
  exact ⟨by have := h1.rules; omega, h2.ne, fun r hr => by have := (h1.cmds r hr).1; omega, fun r hr => by have := (h1.cmds r hr).2.1; omega, fun r hr => by have := (h1.cmds r hr).2.2; omega,
    fun r hr x hx => by have := shaped_size (h2.shp r hr) x (List.mem_append_left _ hx); omega, fun r hr x hx => by have := shaped_size (h2.shp r hr) x (List.mem_append_right _ hx); omega,
    fun r hr c hc => by have := h2.cmd r hr c hc; omega, by have := h1.phony; omega⟩
theorem checkGo_made {ph : List ByteArray} : ∀ (l : List Ru) (made : List ByteArray), (checkGo ph made l).1 = true → ∀ r ∈ l, ∀ t ∈ r.1, t ∉ made := by
  intro l
  induction l with
  | nil => intro _ _ r hr; cases hr
  | cons r l ih =>
    intro made h q hq t ht
    rw [checkGo] at h
    split at h
    · rename_i ha
      rcases List.mem_cons.1 hq with rfl | hq
      · unfold agreesR at ha
        rw [Bool.and_eq_true] at ha
        have := List.all_eq_true.1 ha.1 t ht
        intro hm
        rw [inT_mem.2 hm] at this
        cases this
      · exact fun hm => ih _ h q hq t ht (List.mem_append_left _ hm)
    · cases h
theorem checkGo_uniq {ph : List ByteArray} : ∀ (l : List Ru) (made : List ByteArray), (checkGo ph made l).1 = true → ∀ r ∈ l, ∀ r' ∈ l, ∀ x, x ∈ r.1 → x ∈ r'.1 → r.1 = r'.1 := by
  intro l
  induction l with
  | nil => intro _ _ r hr; cases hr
  | cons q l ih =>
    intro made h r hr r' hr' x hx hx'
    rw [checkGo] at h
    split at h
    · have hm := checkGo_made l _ h
      rcases List.mem_cons.1 hr with rfl | hr
      · rcases List.mem_cons.1 hr' with rfl | hr'
        · rfl
        · exact absurd (List.mem_append_right _ hx) (hm r' hr' x hx')
      · rcases List.mem_cons.1 hr' with e | hr2'
        · rw [e] at hx'
          exact absurd (List.mem_append_right _ hx') (hm r hr x hx)
        · exact ih _ h r hr r' hr2' x hx hx'
    · cases h
theorem parse_uniq (s : ByteArray) : UniqT (parseR s).2 := by
  unfold parseR
  have h0 : UniqT mk0 := fun r hr => by cases hr
  split
  · exact h0
  · split
    · exact h0
    · split
      · rename_i h
        unfold checkR at h
        rw [Bool.and_eq_true] at h
        exact checkGo_uniq _ _ h.1
      · exact h0
end Go.Proofs.Ytlkpbpecgdphaaa
namespace Go.Proofs.Ytlkpbpecgdphaaa
open Go.RowKit

def made0 : ByteArray := ⟨#[98, 32, 58, 32, 97, 10, 9, 99, 111, 112, 121, 32, 97, 32, 98, 10]⟩
set_option maxRecDepth 100000 in
theorem parse_made : (parseR made0).1 = 0 := by decide +kernel
set_option maxRecDepth 100000 in
theorem graph_made : (graphR (parseR made0).2 [(⟨#[97]⟩, ⟨#[]⟩)] ⟨#[98]⟩).1 = 0 ∧ (graphR (parseR made0).2 [(⟨#[97]⟩, ⟨#[]⟩)] ⟨#[98]⟩).2.length = 1 := by decide +kernel
theorem room_nil (U : List ByteArray) : room U [] < U.length + 1 := Nat.lt_succ_of_le (List.length_filter_le _ _)
theorem graph_ok {m : Mk} {l : List F} {goal : ByteArray} (hu : UniqT m) (h0 : (graphR m l goal).1 = 0) : OutOk m l (graphR m l goal).2 ∧ (((graphR m l goal).2 = [] ∧ has l goal = true) ∨ ∃ o g, (graphR m l goal).2 = o ++ [g] ∧ goal ∈ g.tg) := by
  unfold graphR at h0 ⊢
  split at h0
  · rename_i hn
    rw [if_pos hn]
    split at h0
    · rename_i h1
      rw [if_pos h1]
      obtain ⟨ext, e, _, hok, _⟩ := visit_left (goal := goal) hu ((univ m l goal).length + 1) goal [] [] way_nil (by unfold univ; simp) (room_nil _) outOk_nil h1
      exact ⟨by rw [e]; exact hok, goal_last h1⟩
    · rename_i h1; exact absurd h0 h1
  · cases h0
theorem graph_err {m : Mk} {l : List F} {goal : ByteArray} (h0 : (graphR m l goal).1 ≠ 0) : (graphR m l goal).2 = [] := by
  unfold graphR at h0 ⊢
  split
  · rename_i hn
    rw [if_pos hn] at h0
    split
    · rename_i h1; rw [if_pos h1] at h0; exact absurd h1 h0
    · rfl
  · rfl
theorem graph_few {m : Mk} {l : List F} {goal : ByteArray} (hL : Lim m) : FewG (graphR m l goal).2 := by
  unfold graphR
  split
  · split
    · exact visit_few hL _ _ _ _ ⟨by simp, by simp⟩
    · exact ⟨by simp, by simp⟩
  · exact ⟨by simp, by simp⟩
end Go.Proofs.Ytlkpbpecgdphaaa
namespace Go.Proofs.Ytlkpbpecgdphaaa
open Go

/-- Is a byte a digit? -/
def dg (c : UInt8) : Bool := decide (48 ≤ c.toNat) && decide (c.toNat ≤ 57)
/-- What digits spell. -/
def valF (a : Nat) (l : List UInt8) : Nat := l.foldl (fun a c => a * 10 + (c.toNat - 48)) a
abbrev val (l : List UInt8) : Nat := valF 0 l
/-- The numeral of a number. -/
abbrev numL (n : Nat) : List UInt8 := Lib.decDigits n

theorem dg_iff {c : UInt8} : dg c = true ↔ 48 ≤ c.toNat ∧ c.toNat ≤ 57 := by simp [dg]
theorem valF_nil (a : Nat) : valF a [] = a := rfl
theorem valF_cons (a : Nat) (c : UInt8) (l : List UInt8) : valF a (c :: l) = valF (a * 10 + (c.toNat - 48)) l := by simp only [valF, List.foldl_cons]
theorem valF_app (a : Nat) (l m : List UInt8) : valF a (l ++ m) = valF (valF a l) m := by simp [valF, List.foldl_append]
theorem valF_ge (l : List UInt8) : ∀ a, a ≤ valF a l := by
  induction l with
  | nil => intro a; exact Nat.le_refl _
  | cons c l ih => intro a; rw [valF_cons]; have := ih (a * 10 + (c.toNat - 48)); omega

theorem numL_eq (n : Nat) : numL n = if n < 10 then [UInt8.ofNat (48 + n)] else numL (n / 10) ++ [UInt8.ofNat (48 + n % 10)] := by
  rw [numL, Lib.decDigits]
  split <;> rfl
theorem numL_small {n : Nat} (h : n < 10) : numL n = [UInt8.ofNat (48 + n)] := by rw [numL_eq, if_pos h]
theorem numL_big {n : Nat} (h : ¬ n < 10) : numL n = numL (n / 10) ++ [UInt8.ofNat (48 + n % 10)] := by rw [numL_eq, if_neg h]
theorem ofNat_dg {k : Nat} (h : k < 10) : (UInt8.ofNat (48 + k)).toNat = 48 + k := by rw [UInt8.toNat_ofNat']; omega
theorem numL_dg (n : Nat) : ∀ c ∈ numL n, dg c = true := by
  induction n using Nat.strongRecOn with
  | ind n ih =>
    intro c hc
    by_cases h : n < 10
    · rw [numL_small h, List.mem_singleton] at hc
      rw [hc, dg_iff, ofNat_dg h]
      omega
    · rw [numL_big h, List.mem_append, List.mem_singleton] at hc
      rcases hc with hc | hc
      · exact ih (n / 10) (by omega) c hc
      · rw [hc, dg_iff, ofNat_dg (by omega)]
        omega
theorem numL_ne (n : Nat) : numL n ≠ [] := by
  by_cases h : n < 10
  · rw [numL_small h]; simp
  · rw [numL_big h]; simp
theorem val_numL (n : Nat) : val (numL n) = n := by
  induction n using Nat.strongRecOn with
  | ind n ih =>
    by_cases h : n < 10
    · rw [numL_small h, val, valF_cons, valF_nil, ofNat_dg h]; omega
    · have e := ih (n / 10) (by omega)
      rw [numL_big h, val, valF_app, show valF 0 (numL (n / 10)) = n / 10 from e, valF_cons, valF_nil, ofNat_dg (by omega)]
      omega
/-- A numeral of more than one digit does not begin with 0. -/
theorem numL_head (n : Nat) : ∃ c l, numL n = c :: l ∧ (c.toNat = 48 → l = []) := by
  induction n using Nat.strongRecOn with
  | ind n ih =>
    by_cases h : n < 10
    · exact ⟨_, [], numL_small h, fun _ => rfl⟩
    · obtain ⟨c, l, e, h0⟩ := ih (n / 10) (by omega)
      refine ⟨c, l ++ [UInt8.ofNat (48 + n % 10)], by rw [numL_big h, e]; rfl, fun hc => ?_⟩
      have hl := h0 hc
      subst hl
      have hv := val_numL (n / 10)
      rw [e, val, valF_cons, valF_nil] at hv
      omega
theorem numL_len {n : Nat} (h : n < 10 ^ 9) : (numL n).length ≤ 9 := by
  have key : ∀ (k n : Nat), n < 10 ^ (k + 1) → (numL n).length ≤ k + 1 := by
    intro k
    induction k with
    | zero => intro n hn; rw [numL_small (by omega)]; simp
    | succ k ih =>
      intro n hn
      by_cases h : n < 10
      · rw [numL_small h]; simp
      · have := ih (n / 10) (by rw [Nat.pow_succ] at hn; omega)
        rw [numL_big h, List.length_append, List.length_singleton]
        omega
  exact key 8 n h
/-- Digits that do not begin with 0 are the numeral of what they spell. -/
theorem numL_val : ∀ (l : List UInt8), l ≠ [] → (∀ c ∈ l, dg c = true) → (∀ c t, l = c :: t → c.toNat = 48 → t = []) → numL (val l) = l := by
  intro l
  induction hn : l.length generalizing l with
  | zero => intro h; exact absurd (List.eq_nil_of_length_eq_zero hn) h
  | succ k ih =>
    intro hne hd h0
    rcases List.eq_nil_or_concat l with rfl | ⟨m, x, rfl⟩
    · exact absurd rfl hne
    · rw [List.concat_eq_append] at hn hd h0 ⊢
      have hx := dg_iff.1 (hd x (by simp))
      have hxe : UInt8.ofNat (48 + (x.toNat - 48)) = x := by
        apply UInt8.toNat_inj.1
        rw [UInt8.toNat_ofNat']
        omega
      cases m with
      | nil =>
        rw [List.nil_append, val, valF_cons, valF_nil, numL_small (by omega)]
        rw [show 48 + (0 * 10 + (x.toNat - 48)) = 48 + (x.toNat - 48) by omega, hxe]
      | cons c t =>
        have hm := ih (c :: t) (by simpa using hn) (by simp) (fun y hy => hd y (by simp at hy ⊢; rcases hy with h | h <;> simp [h])) (fun y u e hy => by
          injection e with e1 e2
          have := h0 y (u ++ [x]) (by rw [e1, e2]; rfl) hy
          simp at this)
        have hv : 1 ≤ val (c :: t) := by
          have hc := dg_iff.1 (hd c (by simp))
          have hc0 : c.toNat ≠ 48 := fun e => by have := h0 c (t ++ [x]) rfl e; simp at this
          rw [val, valF_cons]
          have := valF_ge t (0 * 10 + (c.toNat - 48))
          omega
        have e : val (c :: t ++ [x]) = val (c :: t) * 10 + (x.toNat - 48) := by rw [val, valF_app, valF_cons, valF_nil]
        rw [e, numL_big (by omega), show (val (c :: t) * 10 + (x.toNat - 48)) / 10 = val (c :: t) by omega, show (val (c :: t) * 10 + (x.toNat - 48)) % 10 = x.toNat - 48 by omega, hm, hxe]

/-- A number at the head of a text: its digits are the numeral of a number of at most 'most'. -/
def numO (most : Nat) (s : List UInt8) : Option (Nat × List UInt8) :=
  if numL (val (s.takeWhile dg)) = s.takeWhile dg ∧ val (s.takeWhile dg) ≤ most then some (val (s.takeWhile dg), s.dropWhile dg) else none
theorem takeWhile_app {p : UInt8 → Bool} : ∀ {a b : List UInt8}, (∀ c ∈ a, p c = true) → (∀ c t, b = c :: t → p c = false) → (a ++ b).takeWhile p = a ∧ (a ++ b).dropWhile p = b
  | [], b, _, hb => by
    cases b with
    | nil => exact ⟨rfl, rfl⟩
    | cons c t => have := hb c t rfl; simp [this]
  | x :: a, b, ha, hb => by
    have hx := ha x (by simp)
    obtain ⟨h1, h2⟩ := takeWhile_app (a := a) (b := b) (fun c hc => ha c (by simp [hc])) hb
    simp [hx, h1, h2]
theorem numO_good {most n : Nat} {s : List UInt8} (h : n ≤ most) (hs : ∀ c t, s = c :: t → dg c = false) : numO most (numL n ++ s) = some (n, s) := by
  obtain ⟨h1, h2⟩ := takeWhile_app (numL_dg n) hs
  unfold numO
  rw [h1, h2, val_numL, if_pos ⟨rfl, h⟩]
theorem numO_some {most n : Nat} {s r : List UInt8} (h : numO most s = some (n, r)) : n ≤ most ∧ s = numL n ++ r ∧ ∀ c t, r = c :: t → dg c = false := by
  unfold numO at h
  split at h
  · rename_i hc
    injection h with h
    injection h with h1 h2
    subst h1 h2
    refine ⟨hc.2, by rw [hc.1, List.takeWhile_append_dropWhile], fun c t e => ?_⟩
    have := List.head?_dropWhile_not dg s
    rw [e] at this
    simpa using this
  · cases h
theorem numO_len {most n : Nat} {s r : List UInt8} (h : numO most s = some (n, r)) : r.length ≤ s.length := by
  obtain ⟨_, e, _⟩ := numO_some h
  rw [e, List.length_append]; omega

/-! strconv.Atoi's plain function at digits alone. -/
theorem pu_ok : ∀ (l : List UInt8) (a u : Nat), (∀ c ∈ l, dg c = true) → Lib.parseUint10 a l = .ok u → u = valF a l
  | [], a, u, _, h => by simp only [Lib.parseUint10] at h; injection h with h; exact h.symm
  | c :: l, a, u, hd, h => by
    have hc := dg_iff.1 (hd c (by simp))
    simp only [Lib.parseUint10, if_pos hc] at h
    split at h
    · cases h
    · split at h
      · cases h
      · exact pu_ok l _ u (fun x hx => hd x (by simp [hx])) h
theorem pu_range : ∀ (l : List UInt8) (a : Nat), (∀ c ∈ l, dg c = true) → Lib.parseUint10 a l = .range → 18446744073709551616 ≤ valF a l
  | [], a, _, h => by simp only [Lib.parseUint10] at h; cases h
  | c :: l, a, hd, h => by
    have hc := dg_iff.1 (hd c (by simp))
    simp only [Lib.parseUint10, if_pos hc] at h
    rw [valF_cons]
    have hg := valF_ge l (a * 10 + (c.toNat - 48))
    split at h
    · omega
    · split at h
      · omega
      · exact pu_range l _ (fun x hx => hd x (by simp [hx])) h
theorem pu_syntax : ∀ (l : List UInt8) (a : Nat), (∀ c ∈ l, dg c = true) → Lib.parseUint10 a l ≠ Lib.NumEnd.syntax
  | [], a, _ => by simp [Lib.parseUint10]
  | c :: l, a, hd => by
    have hc := dg_iff.1 (hd c (by simp))
    simp only [Lib.parseUint10, if_pos hc]
    split
    · simp
    · split
      · simp
      · exact pu_syntax l _ (fun x hx => hd x (by simp [hx]))
/-- What Atoi's plain function gives of digits. -/
theorem atoi_dg {l : List UInt8} (hd : ∀ c ∈ l, dg c = true) : (l = [] ∧ Lib.atoiAll l = Lib.NumEnd.syntax) ∨ (l ≠ [] ∧ val l < 9223372036854775808 ∧ Lib.atoiAll l = .ok (val l)) ∨ (l ≠ [] ∧ 9223372036854775808 ≤ val l ∧ Lib.atoiAll l = .range) := by
  cases l with
  | nil => exact .inl ⟨rfl, rfl⟩
  | cons c l =>
    have hc := dg_iff.1 (hd c (by simp))
    have h1 : ¬ (c.toNat = 43 ∨ c.toNat = 45) := by omega
    have h2 : ¬ c.toNat = 45 := by omega
    have hm : Lib.parseMag (c :: l) = Lib.parseUint10 0 (c :: l) := by unfold Lib.parseMag; rw [if_neg (by simp)]
    right
    unfold Lib.atoiAll
    simp only [if_neg h1, hm]
    rcases e : Lib.parseUint10 0 (c :: l) with u | _ | _
    · have hu := pu_ok _ _ _ hd e
      by_cases hb : 9223372036854775808 ≤ u
      · exact .inr ⟨by simp, by show _ ≤ valF 0 (c :: l); omega, by simp [h2, hb]⟩
      · have hv : valF 0 (c :: l) < 9223372036854775808 := by omega
        refine .inl ⟨by simp, hv, ?_⟩
        rw [hu]
        have hb2 : ¬ (9223372036854775808 ≤ valF 0 (c :: l)) := by omega
        simp [h2, hb2]
    · exact absurd e (pu_syntax _ _ hd)
    · have := pu_range _ _ hd e
      exact .inr ⟨by simp, by show _ ≤ valF 0 (c :: l); omega, rfl⟩
end Go.Proofs.Ytlkpbpecgdphaaa
