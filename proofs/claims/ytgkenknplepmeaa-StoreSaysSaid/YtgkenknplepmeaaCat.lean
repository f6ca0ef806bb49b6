/-
  WALKS: slices.Grow of nil, slices.Concat over slices of changes: what each call gives.
-/
import Derived.Test.YtgkenknplepmeaaName
import Derived.Test.YtgkenknplepmeaaRwC
import Derived.Test.YtgkenknplepmeaaCmp
import Derived.Test.YtgkenknplepmeaaApp
import Derived.Lib.AppendZeros
namespace Go.Proofs.Ytgkenknplepmeaa
open Go.RowKit

theorem keyB_short {p s : ByteArray} (hp : p.size = 2) (h : s.size < 3) : keyB p s = false := by
  unfold keyB
  rw [nameB_short (.inl (by rw [ByteArray.size_extract, hp]; omega))]
  simp
theorem keyB_long {p s : ByteArray} (hp : p.size = 2) (h : 3 ≤ s.size) : keyB p s = (((s.extract 0 2).toList == p.toList) && nameB (s.extract 2 s.size)) := by
  unfold keyB preB
  rw [hp, decide_eq_true (by omega), Bool.true_and]
theorem first_byte {s : ByteArray} {x y : UInt8} (h0 : 0 < s.size) (h : ((s.extract 0 2).toList == ByteArray.toList ⟨#[x, y]⟩) = true) : s[0] = x := by
  rw [beq_iff_eq, ByteArray.toList_eq, ByteArray.toList_eq, ByteArray.data_extract, Array.toList_extract] at h
  simp only [List.extract_eq_take_drop, List.drop_zero, Nat.sub_zero] at h
  have e : s.data.toList[0]? = some x := by
    have : (s.data.toList.take 2)[0]? = some x := by rw [h]; rfl
    rw [List.getElem?_take] at this
    simpa using this
  rw [Array.getElem?_toList, Array.getElem?_eq_getElem h0] at e
  injection e
set_option maxHeartbeats 4000000 in
set_option maxRecDepth 100000 in
theorem changeFault_all (c : Ch) (w : World) (hs : c.key.size ≤ 1000000) : Calls Try.prog 35 #[c.v] w fun e w' => e = .returned (.int .i64 (ckR c)) ∧ ∃ o, w' = w.alloc o := by
  obtain ⟨key, val, gone⟩ := c
  simp only at hs
  have HN := Lib.hid (fun w => nameMay_any (key.extract 2 key.size) w (by simp; omega))
  by_cases h3 : key.size < 3
  · have hck : ckR ⟨key, val, gone⟩ = 3 := by
      unfold ckR
      simp only [keyB_short (p := pF) rfl h3, keyB_short (p := pD) rfl h3, Bool.or_false, Bool.false_and, Bool.false_eq_true, if_false]
    rw [hck]
    unfold Ch.v
    have d3 : (key.size : Int) < 3 := by omega
    go_enter Try.func35, Try.ntmps35
    go_wp2
    go_ret
    exact ⟨rfl, _, rfl⟩
  have d3 : decide ((key.size : Int) < 3) = false := decide_eq_false (by omega)
  have hF := keyB_long (p := pF) (s := key) rfl (by omega)
  have hD := keyB_long (p := pD) (s := key) rfl (by omega)
  have i0 : 0 < key.size := by omega
  have i2 : 2 ≤ key.size := by omega
  have i0z : (0 : Int) < (key.size : Int) := by omega
  have i2z : (2 : Int) ≤ (key.size : Int) := by omega
  have hfb := fun h => first_byte (x := 102) (y := 47) i0 h
  have hdb := fun h => first_byte (x := 100) (y := 47) i0 h
  have hfd : ((key.extract 0 2).toList == ByteArray.toList ⟨#[102, 47]⟩) = true → ((key.extract 0 2).toList == ByteArray.toList ⟨#[100, 47]⟩) = false := fun h => by
    cases q : ((key.extract 0 2).toList == ByteArray.toList ⟨#[100, 47]⟩) with
    | false => rfl
    | true =>
      have h1 := hfb h
      rw [hdb q] at h1
      cases h1
  unfold pF at hF
  unfold pD at hD
  unfold Ch.v ckR
  simp only
  unfold pF pD
  rw [hF, hD]
  clear hF hD
  generalize hnm : nameB (key.extract 2 key.size) = nm at *
  clear hnm
  cases hf : ((key.extract 0 2).toList == ByteArray.toList ⟨#[102, 47]⟩) with
  | true =>
    have hd := hfd hf
    have hb := hfb hf
    have hb2 : ((key[0].toNat : Int) == 102) = true := by rw [hb]; rfl
    have pf : (key.extract 0 2).toList = [102, 47] := by have := beq_iff_eq.1 hf; rw [this, ByteArray.toList_eq]
    have hn1 : (!((key.extract 0 2).toList == ByteArray.toList ⟨#[102, 47]⟩)) = false := by rw [hf]; rfl
    rw [hd]
    clear hfb hdb hfd hd hb hf hn1
    cases gone with
    | false =>
      cases nm with
      | false =>
        simp only [Bool.and_false, Bool.or_false, Bool.false_or, Bool.false_and, Bool.true_and, Bool.and_true, Bool.not_false, Bool.not_true, Bool.false_eq_true, if_false, if_true, Bool.or_self]
        go_enter Try.func35, Try.ntmps35
        go_wp2_with fail
        refine (HN.out _).mono ?_
        rintro e w1 ⟨rfl, rfl⟩
        go_wp2
        go_ret
        exact ⟨rfl, _, rfl⟩
      | true =>
        by_cases h300 : 300 < val.size
        · have z300 : (300 : Int) < (val.size : Int) := by omega
          rw [decide_eq_true h300]
          simp only [Bool.and_false, Bool.or_false, Bool.false_or, Bool.false_and, Bool.true_and, Bool.and_true, Bool.true_or, Bool.not_false, Bool.not_true, Bool.false_eq_true, if_false, if_true, Bool.and_self]
          go_enter Try.func35, Try.ntmps35
          go_wp2_with fail
          refine (HN.out _).mono ?_
          rintro e w1 ⟨rfl, rfl⟩
          go_wp2
          go_ret
          exact ⟨rfl, _, rfl⟩
        have z300 : decide ((300 : Int) < (val.size : Int)) = false := decide_eq_false (by omega)
        rw [decide_eq_false h300]
        by_cases h20 : 20 < val.size
        · have z20 : (20 : Int) < (val.size : Int) := by omega
          rw [decide_eq_true h20]
          simp only [Bool.and_false, Bool.or_false, Bool.false_or, Bool.false_and, Bool.true_and, Bool.and_true, Bool.true_or, Bool.not_false, Bool.not_true, Bool.false_eq_true, if_false, if_true, Bool.and_self]
          go_enter Try.func35, Try.ntmps35
          go_wp2_with fail
          refine (HN.out _).mono ?_
          rintro e w1 ⟨rfl, rfl⟩
          go_wp2
          go_ret
          exact ⟨rfl, _, rfl⟩
        have z20 : decide ((20 : Int) < (val.size : Int)) = false := decide_eq_false (by omega)
        rw [decide_eq_false h20]
        simp only [Bool.and_false, Bool.or_false, Bool.false_or, Bool.false_and, Bool.true_and, Bool.and_true, Bool.true_or, Bool.not_false, Bool.not_true, Bool.false_eq_true, if_false, if_true, Bool.and_self, Bool.or_self]
        go_enter Try.func35, Try.ntmps35
        go_wp2_with fail
        refine (HN.out _).mono ?_
        rintro e w1 ⟨rfl, rfl⟩
        go_wp2
        go_ret
        exact ⟨rfl, _, rfl⟩
    | true =>
      cases he : val.toList.isEmpty with
      | false =>
        have he' : (!val.toList.isEmpty) = true := by rw [he]; rfl
        simp only [Bool.not_false, Bool.and_true, Bool.not_true, Bool.and_false, Bool.false_eq_true, if_false]
        go_enter Try.func35, Try.ntmps35
        go_wp2
        go_ret
        exact ⟨rfl, _, rfl⟩
      | true =>
        have he' : (!val.toList.isEmpty) = false := by rw [he]; rfl
        cases nm with
        | false =>
          simp only [Bool.and_false, Bool.or_false, Bool.false_or, Bool.false_and, Bool.true_and, Bool.and_true, Bool.not_false, Bool.not_true, Bool.false_eq_true, if_false, if_true, Bool.or_self]
          go_enter Try.func35, Try.ntmps35
          go_wp2_with fail
          refine (HN.out _).mono ?_
          rintro e w1 ⟨rfl, rfl⟩
          go_wp2
          go_ret
          exact ⟨rfl, _, rfl⟩
        | true =>
          by_cases h300 : 300 < val.size
          · have z300 : (300 : Int) < (val.size : Int) := by omega
            rw [decide_eq_true h300]
            simp only [Bool.and_false, Bool.or_false, Bool.false_or, Bool.false_and, Bool.true_and, Bool.and_true, Bool.true_or, Bool.not_false, Bool.not_true, Bool.false_eq_true, if_false, if_true, Bool.and_self]
            go_enter Try.func35, Try.ntmps35
            go_wp2_with fail
            refine (HN.out _).mono ?_
            rintro e w1 ⟨rfl, rfl⟩
            go_wp2
            go_ret
            exact ⟨rfl, _, rfl⟩
          have z300 : decide ((300 : Int) < (val.size : Int)) = false := decide_eq_false (by omega)
          rw [decide_eq_false h300]
          by_cases h20 : 20 < val.size
          · have z20 : (20 : Int) < (val.size : Int) := by omega
            rw [decide_eq_true h20]
            simp only [Bool.and_false, Bool.or_false, Bool.false_or, Bool.false_and, Bool.true_and, Bool.and_true, Bool.true_or, Bool.not_false, Bool.not_true, Bool.false_eq_true, if_false, if_true, Bool.and_self]
            go_enter Try.func35, Try.ntmps35
            go_wp2_with fail
            refine (HN.out _).mono ?_
            rintro e w1 ⟨rfl, rfl⟩
            go_wp2
            go_ret
            exact ⟨rfl, _, rfl⟩
          have z20 : decide ((20 : Int) < (val.size : Int)) = false := decide_eq_false (by omega)
          rw [decide_eq_false h20]
          simp only [Bool.and_false, Bool.or_false, Bool.false_or, Bool.false_and, Bool.true_and, Bool.and_true, Bool.true_or, Bool.not_false, Bool.not_true, Bool.false_eq_true, if_false, if_true, Bool.and_self, Bool.or_self]
          go_enter Try.func35, Try.ntmps35
          go_wp2_with fail
          refine (HN.out _).mono ?_
          rintro e w1 ⟨rfl, rfl⟩
          go_wp2
          go_ret
          exact ⟨rfl, _, rfl⟩
  | false =>
    have pf : ¬ (key.extract 0 2).toList = [102, 47] := fun e => by rw [e, ByteArray.toList_eq] at hf; simp at hf
    have hn1 : (!((key.extract 0 2).toList == ByteArray.toList ⟨#[102, 47]⟩)) = true := by rw [hf]; rfl
    cases hd : ((key.extract 0 2).toList == ByteArray.toList ⟨#[100, 47]⟩) with
    | true =>
      have hb := hdb hd
      have hb2 : ((key[0].toNat : Int) == 102) = false := by rw [hb]; rfl
      have pd : (key.extract 0 2).toList = [100, 47] := by have := beq_iff_eq.1 hd; rw [this, ByteArray.toList_eq]
      clear hfb hdb hfd hb hf hd hn1
      cases gone with
      | false =>
        cases nm with
        | false =>
          simp only [Bool.and_false, Bool.or_false, Bool.false_or, Bool.false_and, Bool.true_and, Bool.and_true, Bool.not_false, Bool.not_true, Bool.false_eq_true, if_false, if_true, Bool.or_self]
          go_enter Try.func35, Try.ntmps35
          go_wp2_with fail
          refine (HN.out _).mono ?_
          rintro e w1 ⟨rfl, rfl⟩
          go_wp2
          go_ret
          exact ⟨rfl, _, rfl⟩
        | true =>
          by_cases h300 : 300 < val.size
          · have z300 : (300 : Int) < (val.size : Int) := by omega
            rw [decide_eq_true h300]
            simp only [Bool.and_false, Bool.or_false, Bool.false_or, Bool.false_and, Bool.true_and, Bool.and_true, Bool.true_or, Bool.not_false, Bool.not_true, Bool.false_eq_true, if_false, if_true, Bool.and_self]
            go_enter Try.func35, Try.ntmps35
            go_wp2_with fail
            refine (HN.out _).mono ?_
            rintro e w1 ⟨rfl, rfl⟩
            go_wp2
            go_ret
            exact ⟨rfl, _, rfl⟩
          have z300 : decide ((300 : Int) < (val.size : Int)) = false := decide_eq_false (by omega)
          rw [decide_eq_false h300]
          simp only [Bool.and_false, Bool.or_false, Bool.false_or, Bool.false_and, Bool.true_and, Bool.and_true, Bool.true_or, Bool.not_false, Bool.not_true, Bool.false_eq_true, if_false, if_true, Bool.and_self, Bool.or_self]
          go_enter Try.func35, Try.ntmps35
          go_wp2_with fail
          refine (HN.out _).mono ?_
          rintro e w1 ⟨rfl, rfl⟩
          go_wp2
          go_ret
          exact ⟨rfl, _, rfl⟩
      | true =>
        cases he : val.toList.isEmpty with
        | false =>
          have he' : (!val.toList.isEmpty) = true := by rw [he]; rfl
          simp only [Bool.not_false, Bool.and_true, Bool.not_true, Bool.and_false, Bool.false_eq_true, if_false]
          go_enter Try.func35, Try.ntmps35
          go_wp2
          go_ret
          exact ⟨rfl, _, rfl⟩
        | true =>
          have he' : (!val.toList.isEmpty) = false := by rw [he]; rfl
          cases nm with
          | false =>
            simp only [Bool.and_false, Bool.or_false, Bool.false_or, Bool.false_and, Bool.true_and, Bool.and_true, Bool.not_false, Bool.not_true, Bool.false_eq_true, if_false, if_true, Bool.or_self]
            go_enter Try.func35, Try.ntmps35
            go_wp2_with fail
            refine (HN.out _).mono ?_
            rintro e w1 ⟨rfl, rfl⟩
            go_wp2
            go_ret
            exact ⟨rfl, _, rfl⟩
          | true =>
            by_cases h300 : 300 < val.size
            · have z300 : (300 : Int) < (val.size : Int) := by omega
              rw [decide_eq_true h300]
              simp only [Bool.and_false, Bool.or_false, Bool.false_or, Bool.false_and, Bool.true_and, Bool.and_true, Bool.true_or, Bool.not_false, Bool.not_true, Bool.false_eq_true, if_false, if_true, Bool.and_self]
              go_enter Try.func35, Try.ntmps35
              go_wp2_with fail
              refine (HN.out _).mono ?_
              rintro e w1 ⟨rfl, rfl⟩
              go_wp2
              go_ret
              exact ⟨rfl, _, rfl⟩
            have z300 : decide ((300 : Int) < (val.size : Int)) = false := decide_eq_false (by omega)
            rw [decide_eq_false h300]
            simp only [Bool.and_false, Bool.or_false, Bool.false_or, Bool.false_and, Bool.true_and, Bool.and_true, Bool.true_or, Bool.not_false, Bool.not_true, Bool.false_eq_true, if_false, if_true, Bool.and_self, Bool.or_self]
            go_enter Try.func35, Try.ntmps35
            go_wp2_with fail
            refine (HN.out _).mono ?_
            rintro e w1 ⟨rfl, rfl⟩
            go_wp2
            go_ret
            exact ⟨rfl, _, rfl⟩
    | false =>
      have pd : ¬ (key.extract 0 2).toList = [100, 47] := fun e => by rw [e, ByteArray.toList_eq] at hd; simp at hd
      clear hfb hdb hfd hf hd hn1
      simp only [Bool.false_and, Bool.or_self, Bool.false_eq_true, if_false]
      go_enter Try.func35, Try.ntmps35
      go_wp2
      go_ret
      exact ⟨rfl, _, rfl⟩
theorem changeFault_any (c : Ch) (w : World) (hs : c.key.size ≤ 1000000) : Calls Try.prog 35 #[c.v] w fun e w' => e = .returned (.int .i64 (ckR c)) ∧ Below w.heap.size w w' :=
  (changeFault_all c w hs).mono fun _ _ ⟨he, o, ho⟩ => ⟨he, by rw [ho]; exact (Below.refl _ _).alloc (Nat.le_refl _) _⟩
end Go.Proofs.Ytgkenknplepmeaa
namespace Go.Proofs.Ytgkenknplepmeaa
open Go.RowKit

/-- The cells of a list of changes: three each. -/
def ccells (l : List Ch) : List Value := l.flatMap encC
theorem ccells_len (l : List Ch) : (ccells l).length = l.length * 3 := by
  induction l with
  | nil => rfl
  | cons f l ih => show (ccells l).length + 1 + 1 + 1 = (l.length + 1) * 3; omega
theorem ccells_append (a b : List Ch) : ccells (a ++ b) = ccells a ++ ccells b := by simp [ccells]
theorem ccells_cons (f : Ch) (l : List Ch) : ccells (f :: l) = .string f.key :: .string f.val :: .bool f.gone :: ccells l := rfl
theorem ccells_at {l : List Ch} {i : Nat} {f : Ch} (h : l[i]? = some f) : (ccells l)[i * 3]? = some (.string f.key) ∧ (ccells l)[i * 3 + 1]? = some (.string f.val) ∧ (ccells l)[i * 3 + 2]? = some (.bool f.gone) := by
  induction l generalizing i with
  | nil => simp at h
  | cons g l ih =>
    cases i with
    | zero => simp at h; subst h; exact ⟨rfl, rfl, rfl⟩
    | succ i =>
      rw [List.getElem?_cons_succ] at h
      rw [ccells_cons, show (i + 1) * 3 = i * 3 + 1 + 1 + 1 by omega]
      exact ih h
theorem ccells_of {l : List Ch} {j : Nat} {u : Value} (h : (ccells l)[j]? = some u) : ∃ i f, l[i]? = some f ∧ ((j = i * 3 ∧ u = .string f.key) ∨ (j = i * 3 + 1 ∧ u = .string f.val) ∨ (j = i * 3 + 2 ∧ u = .bool f.gone)) := by
  have hj : j < l.length * 3 := by have := (List.getElem?_eq_some_iff.1 h).1; rwa [ccells_len] at this
  have hi : j / 3 < l.length := by omega
  have hf : l[j / 3]? = some l[j / 3] := List.getElem?_eq_getElem hi
  obtain ⟨h0, h1, h2⟩ := ccells_at hf
  refine ⟨j / 3, _, hf, ?_⟩
  have e : j = j / 3 * 3 ∨ j = j / 3 * 3 + 1 ∨ j = j / 3 * 3 + 2 := by omega
  rcases e with e | e | e
  · rw [← e, h] at h0; exact .inl ⟨e, by injection h0⟩
  · rw [← e, h] at h1; exact .inr (.inl ⟨e, by injection h1⟩)
  · rw [← e, h] at h2; exact .inr (.inr ⟨e, by injection h2⟩)
theorem ccells_one (l : List Ch) : ∀ u ∈ ccells l, u.oneCell' = true := by
  intro u hu
  simp only [ccells, List.mem_flatMap] at hu
  obtain ⟨f, _, hf⟩ := hu
  exact encC_one f u hf
theorem RdC.rdx {w : World} {B n c : Nat} {A : Option Addr} {l : List Ch} (h : RdC w B A n c l) : RdX w 3 A n (ccells l) :=
  ⟨by rw [ccells_len, h.1], ccells_one l, fun hn => by
    obtain ⟨b, off, e, hb, hc⟩ := h.2.2.2 hn
    refine ⟨b, off, e, fun j u hu => ?_⟩
    obtain ⟨i, f, hf, hq⟩ := ccells_of hu
    obtain ⟨h1, h2, h3⟩ := hc i f hf
    rcases hq with ⟨rfl, rfl⟩ | ⟨rfl, rfl⟩ | ⟨rfl, rfl⟩
    · exact h1
    · exact h2
    · exact h3⟩
theorem RdC.nil (w : World) (B : Nat) : RdC w B none 0 0 [] := ⟨rfl, Nat.le_refl _, Nat.zero_le _, fun h => absurd h (by omega)⟩
theorem RdC.below {w w' : World} {B n c : Nat} {A : Option Addr} {l : List Ch} (h : RdC w B A n c l) (hb : Below B w w') : RdC w' B A n c l := h.keep fun _ hp => hb.cell hp
theorem RdC.of_own {w : World} {base n : Nat} {e : TypeId} {v : Value} {l : List Ch} (h : w.ownsRow base e 3 v n (ccells l)) : ∃ A c, v = .slice A n c ∧ RdC w w.heap.size A n c l := by
  have hl : l.length = n := by have := h.1; rw [ccells_len] at this; omega
  rcases h.2 with ⟨rfl, rfl⟩ | ⟨g, cap, cur, rfl, hb, hh, hn, hm, hs, ht⟩
  · obtain rfl : l = [] := List.eq_nil_of_length_eq_zero hl
    exact ⟨none, 0, rfl, RdC.nil _ _⟩
  · refine ⟨_, cap, rfl, hl, hn, hm, fun _ => ⟨g, 0, rfl, (Array.getElem?_eq_some_iff.1 hh).1, fun i f hi => ?_⟩⟩
    have hc := fun j u hu => h.cells (g := g) rfl j u hu
    simp only [Go.WideShapes.add_plain] at hc
    obtain ⟨h1, h2, h3⟩ := ccells_at hi
    exact ⟨hc _ _ h1, by rw [Nat.add_assoc]; exact hc _ _ h2, by rw [Nat.add_assoc]; exact hc _ _ h3⟩
theorem change_info : (Try.prog.info? 54).map (fun i => (i.zero, i.size, i.bytes)) = some (some (.agg #[.string ByteArray.empty, .string ByteArray.empty, .bool false]), 3, 40) := by kernel_rfl
theorem change_parts : ∃ i, Try.prog.info? 54 = some i ∧ i.zero = some (.agg #[.string ByteArray.empty, .string ByteArray.empty, .bool false]) ∧ i.size = 3 ∧ i.bytes = 40 := by
  have h := change_info
  cases e : Try.prog.info? 54 with
  | none => rw [e] at h; cases h
  | some i =>
    rw [e] at h
    simp only [Option.map_some, Option.some.injEq, Prod.mk.injEq] at h
    exact ⟨i, rfl, h.1, h.2.1, h.2.2⟩

set_option maxHeartbeats 1000000 in
set_option maxRecDepth 100000 in
/-- slices.Grow(nil, n): an empty row of the call's own. -/
theorem growC_any (n : Nat) (w : World) (hn : n ≤ 1000000) :
    Calls Try.prog 92 #[.slice none 0 0, .int .i64 n] w fun e w' => ∃ v, e = .returned v ∧ w'.ownsRow w.heap.size 54 3 v 0 [] ∧ Below w.heap.size w w' := by
  obtain ⟨i, hi, hz, hsz, hby⟩ := change_parts
  by_cases h0 : n = 0
  · subst h0
    go_enter Try.func92, Try.ntmps92
    go_wp2
    go_ret
    exact ⟨_, rfl, World.ownsRow_nil _ _ _ _, Below.refl _ _⟩
  · have hr := Lib.run_append_nil_zeros (P := Try.prog) w 36 3 36 54 i _ .i64 .i64 Try.underlying36 Try.underlying3 hi hz n (by omega) (by omega) (by omega) (by rw [hby]; omega)
    have hge := grownCap_ge w n 0 54
    have hcm : grownCap w n 0 54 ≤ maxLen := grownCap_le_maxLen w n 0 54 (by unfold maxLen; omega)
    have hpos : 0 < n := by omega
    have HR := Lib.hid hr
    have HM := Lib.hid hcm
    have HZ := Lib.hid hz
    have hsize : (Builtin.zeroCells (Value.agg #[.string ByteArray.empty, .string ByteArray.empty, .bool false]).cells n ++ Builtin.zeroCells (Value.agg #[.string ByteArray.empty, .string ByteArray.empty, .bool false]).cells (grownCap w n 0 54 - n)).size = grownCap w n 0 54 * 3 := by
      have e2 : (Value.agg #[.string ByteArray.empty, .string ByteArray.empty, .bool false]).cells.size = 3 := rfl
      rw [Array.size_append, size_zeroCells, size_zeroCells, e2]; omega
    have HS := Lib.hid hsize
    clear hr hcm hz hsz hby hi h0 hsize
    go_enter Try.func92, Try.ntmps92
    go_wp2_with (at_builtin; refine Lib.wpList_append_run _ rfl _ _ _ _ rfl _ _ rfl rfl _ _ HR.out ?_)
    go_ret
    exact ⟨_, rfl, World.ownsRow_made w.drew _ _ (Nat.le_refl _) HM.out HS.out, ((Below.refl _ _).drew).alloc (Nat.le_refl _) _⟩

/-- What a list of slices holds, cell by cell. -/
def RdLC (w : World) (B g off : Nat) (L : List (Option Addr × Nat × Nat × List Ch)) : Prop :=
  ∀ j s, L[j]? = some s → w.cell? ⟨g, off + j, none⟩ = some (.slice s.1 s.2.1 s.2.2.1) ∧ RdC w B s.1 s.2.1 s.2.2.1 s.2.2.2
def allC (L : List (Option Addr × Nat × Nat × List Ch)) : List Ch := L.flatMap fun s => s.2.2.2
theorem RdLC.keep {w w' : World} {B g off : Nat} {L : List (Option Addr × Nat × Nat × List Ch)} (h : RdLC w B g off L) (hg : g < B) (hb : Below B w w') : RdLC w' B g off L :=
  fun j s hs => ⟨(hb.cell (p := ⟨g, off + j, none⟩) hg).trans (h j s hs).1, (h j s hs).2.keep fun _ hp => hb.cell hp⟩
theorem allC_snoc (L : List (Option Addr × Nat × Nat × List Ch)) (k : Nat) {s : Option Addr × Nat × Nat × List Ch} (h : L[k]? = some s) : allC (L.take (k + 1)) = allC (L.take k) ++ s.2.2.2 := by
  have hl := (List.getElem?_eq_some_iff.1 h).1
  rw [List.take_succ_eq_append_getElem hl, allC, List.flatMap_append]
  have e : L[k] = s := (List.getElem?_eq_some_iff.1 h).2
  rw [e]; simp [allC]
theorem allC_mono (L : List (Option Addr × Nat × Nat × List Ch)) (k : Nat) : (allC (L.take k)).length ≤ (allC L).length := by
  conv => rhs; rw [← List.take_append_drop k L, allC, List.flatMap_append]
  rw [List.length_append]; exact Nat.le_add_right _ _

def CatC (w : World) (n : Nat) (L : List (Option Addr × Nat × Nat × List Ch)) (v j : Value) (wr : World) : Prop :=
  ∃ k : Nat, k ≤ n ∧ j = .int .i64 k ∧ wr.ownsRow w.heap.size 54 3 v (allC (L.take k)).length (ccells (allC (L.take k))) ∧ Below w.heap.size w wr

set_option maxHeartbeats 2000000 in
set_option maxRecDepth 100000 in
/-- slices.Concat: all the slices' files, in a row of the call's own. -/
theorem concatC_any (g off c : Nat) (L : List (Option Addr × Nat × Nat × List Ch)) (w : World) (hg : g < w.heap.size) (h : RdLC w w.heap.size g off L) (hL : L.length ≤ 1000) (hA : (allC L).length ≤ 1000000) :
    Calls Try.prog 71 #[.slice (some ⟨g, off, none⟩) L.length c] w fun e w' => ∃ v, e = .returned v ∧ w'.ownsRow w.heap.size 54 3 v (allC L).length (ccells (allC L)) ∧ Below w.heap.size w w' := by
  obtain ⟨i, hi, hz, hsz, hby⟩ := change_parts
  have HI := Lib.hid hi
  have HZ := Lib.hid hz
  have HS := Lib.hid hsz
  have HB := Lib.hid hby
  have HR := Lib.hid h
  clear hi hz hsz hby h
  generalize hn : L.length = n at *
  have HN := Lib.hid hn
  clear hn
  go_enter Try.func71, Try.ntmps71
  go_wp2
  go_loop [3, 11] (fun s j => ∃ k : Nat, k ≤ n ∧ j = .int .i64 k ∧ s = .int .i64 ((allC (L.take k)).length : Nat)) (fun _ j => n - (intOf j).toNat)
  case atStart => exact ⟨0, Nat.zero_le _, rfl, by simp [allC]⟩
  case round =>
    obtain ⟨k, hk, rfl, rfl⟩ := hrel
    by_cases hlt : k < n
    · obtain ⟨s, hs⟩ : ∃ s, L[k]? = some s := ⟨_, List.getElem?_eq_getElem (by rw [HN.out]; exact hlt)⟩
      obtain ⟨hc, hr⟩ := HR.out k s hs
      have hsn := allC_snoc L k hs
      have hmo := allC_mono L (k + 1)
      have hlen : (allC (L.take (k + 1))).length = (allC (L.take k)).length + s.2.1 := by rw [hsn, List.length_append, hr.1]
      have H1 := Lib.hid hlen
      rw [hlen] at hmo
      clear hsn hlen hr hs
      generalize (allC (L.take k)).length = t at *
      obtain ⟨A, m, d, l⟩ := s
      have hmo' : t + m ≤ (allC L).length := hmo
      have ht : t ≤ 1000000 := by omega
      have hm : m ≤ 1000000 := by omega
      clear hmo hmo'
      go_wp2
      go_round
      case rel => exact ⟨k + 1, by omega, by go_num, by rw [H1.out]; go_num⟩
      case measure => simp [intOf]; omega
    · obtain rfl : k = n := by omega
      have e : L.take k = L := List.take_of_length_le (by rw [HN.out]; omega)
      rw [e]
      go_wp2_with fail
      refine (growC_any _ _ hA).mono ?_
      rintro e w1 ⟨v1, rfl, hown1, hb1⟩
      have HW := Lib.hid hown1
      clear hown1
      go_wp2
      go_loopw [6, 27] (fun v j wr => CatC w k L v j wr) (fun _ j _ => k - (intOf j).toNat)
      case atStart => exact ⟨0, Nat.zero_le _, rfl, by simpa [allC, ccells] using HW.out, hb1⟩
      case round =>
        obtain ⟨q, hq, rfl, hown, hb⟩ := hrel
        have HO := Lib.hid hown
        clear hown HW
        by_cases hlt2 : q < k
        · obtain ⟨s, hs⟩ : ∃ s, L[q]? = some s := ⟨_, List.getElem?_eq_getElem (by rw [HN.out]; exact hlt2)⟩
          obtain ⟨hc, hr⟩ := (HR.out.keep hg hb) q s hs
          have hsn := allC_snoc L q hs
          have hmo := allC_mono L (q + 1)
          rw [hsn, List.length_append, hr.1] at hmo
          have H1 := Lib.hid hsn
          have H2 := Lib.hid hr
          have H2L := Lib.hid hr.1
          clear hsn hr hs
          obtain ⟨A, m, d, l⟩ := s
          have hmo' : (allC (L.take q)).length + m ≤ (allC L).length := hmo
          clear hmo
          go_wp2_with (at_builtin; refine wpList_append_rd _ rfl (.tmp 31) (.tmp 32) _ rfl w.heap.size 54 i _ 3 40 Try.underlying36 HI.out HZ.out HS.out HB.out rfl (by omega) _ _ _ rfl HO.out A m d (ccells l) rfl H2.out.rdx ?_ ?_ ?_ ?_)
          · unfold maxLen; omega
          · omega
          · exact hb.size
          intro v2 w2 hown2 hg2 _
          have hb2 : Below w.heap.size w w2 := hb.grown hg2 hb.size (fun g' hg' => (HO.out.lt g' hg').1)
          have HV := Lib.hid hown2
          clear hown2 HO hmo' H2 hc
          go_wp2
          go_roundw
          case rel => exact ⟨q + 1, by omega, by go_num, by rw [H1.out, List.length_append]; have e1 := HV.out; rw [show (allC (L.take q)).length + l.length = (allC (L.take q)).length + m by rw [H2L.out], ccells_append]; exact e1, hb2⟩
          case measure => simp [intOf]; omega
        · obtain rfl : q = k := by omega
          go_wp2
          go_ret
          exact ⟨_, rfl, by have := HO.out; rw [List.take_of_length_le (by rw [HN.out]; omega)] at this; exact this, hb⟩
theorem own_mono {w : World} {base base' size n : Nat} {e : TypeId} {v : Value} {xs : List Value} (h : w.ownsRow base e size v n xs) (hb : base' ≤ base) : w.ownsRow base' e size v n xs :=
  ⟨h.1, h.2.imp id fun ⟨g, cap, cur, h1, h2, h3⟩ => ⟨g, cap, cur, h1, Nat.le_trans hb h2, h3⟩⟩
abbrev tCh : TypeId := 54
theorem rdx_up (wc : World) (x : Ch) : RdX (wc.alloc (.cells #[.string x.key, .string x.val, .bool x.gone] tCh)) 3 (some ⟨wc.heap.size, 0, none⟩) 1 (encC x) := RdX.new wc 3 #[.string x.key, .string x.val, .bool x.gone] tCh rfl (encC_one x)
end Go.Proofs.Ytgkenknplepmeaa
