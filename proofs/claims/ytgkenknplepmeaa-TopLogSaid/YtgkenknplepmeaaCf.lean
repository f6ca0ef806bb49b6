/-
  WALK: hammerpondref.ChangeFault: what it gives, for every change: the number that row.Check's error has.
-/
import Derived.Test.YtgkenknplepmeaaName
import Derived.Test.YtgkenknplepmeaaRwC
namespace Go.Proofs.Ytgkenknplepmeaa
open Go.RowKit

theorem keyB_short {p s : ByteArray} (hp : p.size = 2) (h : s.size < 3) : keyB p s = false := by
  unfold keyB
  rw [nameB_short (.inl (by rw [ByteArray.size_extract, hp]; omega))]
  simp
theorem keyB_long {p s : ByteArray} (hp : p.size = 2) (h : 3 ≤ s.size) : keyB p s = (((s.extract 0 2).toList == p.toList) && nameB (s.extract 2 s.size)) := by
  unfold keyB preB
  rw [hp, decide_eq_true (by omega), Bool.true_and]
theorem first_byte {s : ByteArray} {x y : UInt8} (h0 : 0 < s.size) (h : ((s.extract 0 2).toList == ByteArray.toList ⟨#[x, y]⟩) = true) : s[0] = x := by
  rw [beq_iff_eq, ByteArray.toList_eq, ByteArray.toList_eq, ByteArray.data_extract, Array.toList_extract] at h
  simp only [List.extract_eq_take_drop, List.drop_zero, Nat.sub_zero] at h
  have e : s.data.toList[0]? = some x := by
    have : (s.data.toList.take 2)[0]? = some x := by rw [h]; rfl
    rw [List.getElem?_take] at this
    simpa using this
  rw [Array.getElem?_toList, Array.getElem?_eq_getElem h0] at e
  injection e
set_option maxHeartbeats 4000000 in
set_option maxRecDepth 100000 in
theorem changeFault_all (c : Ch) (w : World) (hs : c.key.size ≤ 1000000) : Calls Try.prog 35 #[c.v] w fun e w' => e = .returned (.int .i64 (ckR c)) ∧ ∃ o, w' = w.alloc o := by
  obtain ⟨key, val, gone⟩ := c
  simp only at hs
  have HN := Lib.hid (fun w => nameMay_any (key.extract 2 key.size) w (by simp; omega))
  by_cases h3 : key.size < 3
  · have hck : ckR ⟨key, val, gone⟩ = 3 := by
      unfold ckR
      simp only [keyB_short (p := pF) rfl h3, keyB_short (p := pD) rfl h3, Bool.or_false, Bool.false_and, Bool.false_eq_true, if_false]
    rw [hck]
    unfold Ch.v
    have d3 : (key.size : Int) < 3 := by omega
    go_enter Try.func35, Try.ntmps35
    go_wp2
    go_ret
    exact ⟨rfl, _, rfl⟩
  have d3 : decide ((key.size : Int) < 3) = false := decide_eq_false (by omega)
  have hF := keyB_long (p := pF) (s := key) rfl (by omega)
  have hD := keyB_long (p := pD) (s := key) rfl (by omega)
  have i0 : 0 < key.size := by omega
  have i2 : 2 ≤ key.size := by omega
  have i0z : (0 : Int) < (key.size : Int) := by omega
  have i2z : (2 : Int) ≤ (key.size : Int) := by omega
  have hfb := fun h => first_byte (x := 102) (y := 47) i0 h
  have hdb := fun h => first_byte (x := 100) (y := 47) i0 h
  have hfd : ((key.extract 0 2).toList == ByteArray.toList ⟨#[102, 47]⟩) = true → ((key.extract 0 2).toList == ByteArray.toList ⟨#[100, 47]⟩) = false := fun h => by
    cases q : ((key.extract 0 2).toList == ByteArray.toList ⟨#[100, 47]⟩) with
    | false => rfl
    | true =>
      have h1 := hfb h
      rw [hdb q] at h1
      cases h1
  unfold pF at hF
  unfold pD at hD
  unfold Ch.v ckR
  simp only
  unfold pF pD
  rw [hF, hD]
  clear hF hD
  generalize hnm : nameB (key.extract 2 key.size) = nm at *
  clear hnm
  cases hf : ((key.extract 0 2).toList == ByteArray.toList ⟨#[102, 47]⟩) with
  | true =>
    have hd := hfd hf
    have hb := hfb hf
    have hb2 : ((key[0].toNat : Int) == 102) = true := by rw [hb]; rfl
    have pf : (key.extract 0 2).toList = [102, 47] := by have := beq_iff_eq.1 hf; rw [this, ByteArray.toList_eq]
    have hn1 : (!((key.extract 0 2).toList == ByteArray.toList ⟨#[102, 47]⟩)) = false := by rw [hf]; rfl
    rw [hd]
    clear hfb hdb hfd hd hb hf hn1
    cases gone with
    | false =>
      cases nm with
      | false =>
        simp only [Bool.and_false, Bool.or_false, Bool.false_or, Bool.false_and, Bool.true_and, Bool.and_true, Bool.not_false, Bool.not_true, Bool.false_eq_true, if_false, if_true, Bool.or_self]
        go_enter Try.func35, Try.ntmps35
        go_wp2_with fail
        refine (HN.out _).mono ?_
        rintro e w1 ⟨rfl, rfl⟩
        go_wp2
        go_ret
        exact ⟨rfl, _, rfl⟩
      | true =>
        by_cases h300 : 300 < val.size
        · have z300 : (300 : Int) < (val.size : Int) := by omega
          rw [decide_eq_true h300]
          simp only [Bool.and_false, Bool.or_false, Bool.false_or, Bool.false_and, Bool.true_and, Bool.and_true, Bool.true_or, Bool.not_false, Bool.not_true, Bool.false_eq_true, if_false, if_true, Bool.and_self]
          go_enter Try.func35, Try.ntmps35
          go_wp2_with fail
          refine (HN.out _).mono ?_
          rintro e w1 ⟨rfl, rfl⟩
          go_wp2
          go_ret
          exact ⟨rfl, _, rfl⟩
        have z300 : decide ((300 : Int) < (val.size : Int)) = false := decide_eq_false (by omega)
        rw [decide_eq_false h300]
        by_cases h20 : 20 < val.size
        · have z20 : (20 : Int) < (val.size : Int) := by omega
          rw [decide_eq_true h20]
          simp only [Bool.and_false, Bool.or_false, Bool.false_or, Bool.false_and, Bool.true_and, Bool.and_true, Bool.true_or, Bool.not_false, Bool.not_true, Bool.false_eq_true, if_false, if_true, Bool.and_self]
          go_enter Try.func35, Try.ntmps35
          go_wp2_with fail
          refine (HN.out _).mono ?_
          rintro e w1 ⟨rfl, rfl⟩
          go_wp2
          go_ret
          exact ⟨rfl, _, rfl⟩
        have z20 : decide ((20 : Int) < (val.size : Int)) = false := decide_eq_false (by omega)
        rw [decide_eq_false h20]
        simp only [Bool.and_false, Bool.or_false, Bool.false_or, Bool.false_and, Bool.true_and, Bool.and_true, Bool.true_or, Bool.not_false, Bool.not_true, Bool.false_eq_true, if_false, if_true, Bool.and_self, Bool.or_self]
        go_enter Try.func35, Try.ntmps35
        go_wp2_with fail
        refine (HN.out _).mono ?_
        rintro e w1 ⟨rfl, rfl⟩
        go_wp2
        go_ret
        exact ⟨rfl, _, rfl⟩
    | true =>
      cases he : val.toList.isEmpty with
      | false =>
        have he' : (!val.toList.isEmpty) = true := by rw [he]; rfl
        simp only [Bool.not_false, Bool.and_true, Bool.not_true, Bool.and_false, Bool.false_eq_true, if_false]
        go_enter Try.func35, Try.ntmps35
        go_wp2
        go_ret
        exact ⟨rfl, _, rfl⟩
      | true =>
        have he' : (!val.toList.isEmpty) = false := by rw [he]; rfl
        cases nm with
        | false =>
          simp only [Bool.and_false, Bool.or_false, Bool.false_or, Bool.false_and, Bool.true_and, Bool.and_true, Bool.not_false, Bool.not_true, Bool.false_eq_true, if_false, if_true, Bool.or_self]
          go_enter Try.func35, Try.ntmps35
          go_wp2_with fail
          refine (HN.out _).mono ?_
          rintro e w1 ⟨rfl, rfl⟩
          go_wp2
          go_ret
          exact ⟨rfl, _, rfl⟩
        | true =>
          by_cases h300 : 300 < val.size
          · have z300 : (300 : Int) < (val.size : Int) := by omega
            rw [decide_eq_true h300]
            simp only [Bool.and_false, Bool.or_false, Bool.false_or, Bool.false_and, Bool.true_and, Bool.and_true, Bool.true_or, Bool.not_false, Bool.not_true, Bool.false_eq_true, if_false, if_true, Bool.and_self]
            go_enter Try.func35, Try.ntmps35
            go_wp2_with fail
            refine (HN.out _).mono ?_
            rintro e w1 ⟨rfl, rfl⟩
            go_wp2
            go_ret
            exact ⟨rfl, _, rfl⟩
          have z300 : decide ((300 : Int) < (val.size : Int)) = false := decide_eq_false (by omega)
          rw [decide_eq_false h300]
          by_cases h20 : 20 < val.size
          · have z20 : (20 : Int) < (val.size : Int) := by omega
            rw [decide_eq_true h20]
            simp only [Bool.and_false, Bool.or_false, Bool.false_or, Bool.false_and, Bool.true_and, Bool.and_true, Bool.true_or, Bool.not_false, Bool.not_true, Bool.false_eq_true, if_false, if_true, Bool.and_self]
            go_enter Try.func35, Try.ntmps35
            go_wp2_with fail
            refine (HN.out _).mono ?_
            rintro e w1 ⟨rfl, rfl⟩
            go_wp2
            go_ret
            exact ⟨rfl, _, rfl⟩
          have z20 : decide ((20 : Int) < (val.size : Int)) = false := decide_eq_false (by omega)
          rw [decide_eq_false h20]
          simp only [Bool.and_false, Bool.or_false, Bool.false_or, Bool.false_and, Bool.true_and, Bool.and_true, Bool.true_or, Bool.not_false, Bool.not_true, Bool.false_eq_true, if_false, if_true, Bool.and_self, Bool.or_self]
          go_enter Try.func35, Try.ntmps35
          go_wp2_with fail
          refine (HN.out _).mono ?_
          rintro e w1 ⟨rfl, rfl⟩
          go_wp2
          go_ret
          exact ⟨rfl, _, rfl⟩
  | false =>
    have pf : ¬ (key.extract 0 2).toList = [102, 47] := fun e => by rw [e, ByteArray.toList_eq] at hf; simp at hf
    have hn1 : (!((key.extract 0 2).toList == ByteArray.toList ⟨#[102, 47]⟩)) = true := by rw [hf]; rfl
    cases hd : ((key.extract 0 2).toList == ByteArray.toList ⟨#[100, 47]⟩) with
    | true =>
      have hb := hdb hd
      have hb2 : ((key[0].toNat : Int) == 102) = false := by rw [hb]; rfl
      have pd : (key.extract 0 2).toList = [100, 47] := by have := beq_iff_eq.1 hd; rw [this, ByteArray.toList_eq]
      clear hfb hdb hfd hb hf hd hn1
      cases gone with
      | false =>
        cases nm with
        | false =>
          simp only [Bool.and_false, Bool.or_false, Bool.false_or, Bool.false_and, Bool.true_and, Bool.and_true, Bool.not_false, Bool.not_true, Bool.false_eq_true, if_false, if_true, Bool.or_self]
          go_enter Try.func35, Try.ntmps35
          go_wp2_with fail
          refine (HN.out _).mono ?_
          rintro e w1 ⟨rfl, rfl⟩
          go_wp2
          go_ret
          exact ⟨rfl, _, rfl⟩
        | true =>
          by_cases h300 : 300 < val.size
          · have z300 : (300 : Int) < (val.size : Int) := by omega
            rw [decide_eq_true h300]
            simp only [Bool.and_false, Bool.or_false, Bool.false_or, Bool.false_and, Bool.true_and, Bool.and_true, Bool.true_or, Bool.not_false, Bool.not_true, Bool.false_eq_true, if_false, if_true, Bool.and_self]
            go_enter Try.func35, Try.ntmps35
            go_wp2_with fail
            refine (HN.out _).mono ?_
            rintro e w1 ⟨rfl, rfl⟩
            go_wp2
            go_ret
            exact ⟨rfl, _, rfl⟩
          have z300 : decide ((300 : Int) < (val.size : Int)) = false := decide_eq_false (by omega)
          rw [decide_eq_false h300]
          simp only [Bool.and_false, Bool.or_false, Bool.false_or, Bool.false_and, Bool.true_and, Bool.and_true, Bool.true_or, Bool.not_false, Bool.not_true, Bool.false_eq_true, if_false, if_true, Bool.and_self, Bool.or_self]
          go_enter Try.func35, Try.ntmps35
          go_wp2_with fail
          refine (HN.out _).mono ?_
          rintro e w1 ⟨rfl, rfl⟩
          go_wp2
          go_ret
          exact ⟨rfl, _, rfl⟩
      | true =>
        cases he : val.toList.isEmpty with
        | false =>
          have he' : (!val.toList.isEmpty) = true := by rw [he]; rfl
          simp only [Bool.not_false, Bool.and_true, Bool.not_true, Bool.and_false, Bool.false_eq_true, if_false]
          go_enter Try.func35, Try.ntmps35
          go_wp2
          go_ret
          exact ⟨rfl, _, rfl⟩
        | true =>
          have he' : (!val.toList.isEmpty) = false := by rw [he]; rfl
          cases nm with
          | false =>
            simp only [Bool.and_false, Bool.or_false, Bool.false_or, Bool.false_and, Bool.true_and, Bool.and_true, Bool.not_false, Bool.not_true, Bool.false_eq_true, if_false, if_true, Bool.or_self]
            go_enter Try.func35, Try.ntmps35
            go_wp2_with fail
            refine (HN.out _).mono ?_
            rintro e w1 ⟨rfl, rfl⟩
            go_wp2
            go_ret
            exact ⟨rfl, _, rfl⟩
          | true =>
            by_cases h300 : 300 < val.size
            · have z300 : (300 : Int) < (val.size : Int) := by omega
              rw [decide_eq_true h300]
              simp only [Bool.and_false, Bool.or_false, Bool.false_or, Bool.false_and, Bool.true_and, Bool.and_true, Bool.true_or, Bool.not_false, Bool.not_true, Bool.false_eq_true, if_false, if_true, Bool.and_self]
              go_enter Try.func35, Try.ntmps35
              go_wp2_with fail
              refine (HN.out _).mono ?_
              rintro e w1 ⟨rfl, rfl⟩
              go_wp2
              go_ret
              exact ⟨rfl, _, rfl⟩
            have z300 : decide ((300 : Int) < (val.size : Int)) = false := decide_eq_false (by omega)
            rw [decide_eq_false h300]
            simp only [Bool.and_false, Bool.or_false, Bool.false_or, Bool.false_and, Bool.true_and, Bool.and_true, Bool.true_or, Bool.not_false, Bool.not_true, Bool.false_eq_true, if_false, if_true, Bool.and_self, Bool.or_self]
            go_enter Try.func35, Try.ntmps35
            go_wp2_with fail
            refine (HN.out _).mono ?_
            rintro e w1 ⟨rfl, rfl⟩
            go_wp2
            go_ret
            exact ⟨rfl, _, rfl⟩
    | false =>
      have pd : ¬ (key.extract 0 2).toList = [100, 47] := fun e => by rw [e, ByteArray.toList_eq] at hd; simp at hd
      clear hfb hdb hfd hf hd hn1
      simp only [Bool.false_and, Bool.or_self, Bool.false_eq_true, if_false]
      go_enter Try.func35, Try.ntmps35
      go_wp2
      go_ret
      exact ⟨rfl, _, rfl⟩
theorem changeFault_any (c : Ch) (w : World) (hs : c.key.size ≤ 1000000) : Calls Try.prog 35 #[c.v] w fun e w' => e = .returned (.int .i64 (ckR c)) ∧ Below w.heap.size w w' :=
  (changeFault_all c w hs).mono fun _ _ ⟨he, o, ho⟩ => ⟨he, by rw [ho]; exact (Below.refl _ _).alloc (Nat.le_refl _) _⟩
end Go.Proofs.Ytgkenknplepmeaa
