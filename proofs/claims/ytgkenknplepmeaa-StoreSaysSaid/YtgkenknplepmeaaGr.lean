/-
  WALK: hammerpondlaw.goodRows: what it lets through rises, and none is gone.
-/
import Derived.Test.YtgkenknplepmeaaCof
import Derived.BigQuiet
namespace Go.Proofs.Ytgkenknplepmeaa
open Go.RowKit Go.Sort Go.Shelf

/-- The first k rows rise, and none of them is gone. -/
def GoodTo (l : List Ch) (k : Nat) : Prop := (∀ j f, j < k → l[j]? = some f → f.gone = false) ∧ ∀ j f g, j + 1 < k → l[j]? = some f → l[j + 1]? = some g → lt f.key g.key = true
theorem rises_adjC : ∀ l : List Ch, (∀ j f g, l[j]? = some f → l[j + 1]? = some g → lt f.key g.key = true) → l.Pairwise fun a b => lt a.key b.key = true
  | [], _ => List.Pairwise.nil
  | [_], _ => List.pairwise_singleton _ _
  | a :: b :: l, h => by
    have ih := rises_adjC (b :: l) (fun j f g hf hg => h (j + 1) f g (by simpa using hf) (by simpa using hg))
    have hab := h 0 a b rfl rfl
    refine List.pairwise_cons.2 ⟨fun g hg => ?_, ih⟩
    rcases List.mem_cons.1 hg with rfl | hg
    · exact hab
    · exact lt_trans hab ((List.pairwise_cons.1 ih).1 g hg)
/-- Rows that rise, none of them gone, are what they come to. -/
theorem GoodTo.apply {l : List Ch} (h : GoodTo l l.length) : ApplyOf l l := by
  have hr := rises_adjC l fun j f g hf hg => h.2 j f g (List.getElem?_eq_some_iff.1 hg).1 hf hg
  have hg : ∀ c ∈ l, c.gone = false := fun c hc => by
    obtain ⟨j, hj, e⟩ := List.mem_iff_getElem.1 hc
    exact h.1 j c hj (by rw [List.getElem?_eq_getElem hj, e])
  refine ⟨hr, fun k => ?_⟩
  have hp : (l.filter (keyIs k)).Pairwise fun a b => lt a.key b.key = true := hr.filter _
  have hk : ∀ c ∈ l.filter (keyIs k), c.key = k ∧ c.gone = false := fun c hc => by
    have := List.mem_filter.1 hc
    exact ⟨by simpa [keyIs] using this.2, hg c this.1⟩
  generalize l.filter (keyIs k) = f at *
  match f, hp, hk with
  | [], _, _ => rfl
  | [c], _, hk => simp [ends, (hk c (by simp)).2]
  | c :: d :: r, hp, hk =>
    have h1 := (List.pairwise_cons.1 hp).1 d (by simp)
    rw [(hk c (by simp)).1, (hk d (by simp)).1, lt_irrefl] at h1
    cases h1
theorem GoodTo.next {l : List Ch} {k : Nat} {f : Ch} (h : GoodTo l k) (hf : l[k]? = some f) (h1 : f.gone = false) (h2 : ∀ g, 0 < k → l[k - 1]? = some g → lt g.key f.key = true) : GoodTo l (k + 1) := by
  refine ⟨fun j g hj hg => ?_, fun j g g' hj hg hg' => ?_⟩
  · rcases Nat.lt_or_ge j k with hjk | hjk
    · exact h.1 j g hjk hg
    · obtain rfl : j = k := by omega
      rw [hf] at hg; injection hg with hg; subst hg
      exact h1
  · rcases Nat.lt_or_ge (j + 1) k with hjk | hjk
    · exact h.2 j g g' hjk hg hg'
    · obtain rfl : j + 1 = k := by omega
      rw [hf] at hg'; injection hg' with hg'; subst hg'
      exact h2 g (by omega) (by simpa using hg)
theorem le_not_lt {x y : ByteArray} (h : (Op.bytesLess x.toList y.toList || x.toList == y.toList) = false) : lt y x = true := by
  rw [Bool.or_eq_false_iff] at h
  cases q : lt y x with
  | true => rfl
  | false =>
    have e := lt_tri (a := x) (b := y) h.1 q
    have e2 := h.2
    rw [e] at e2
    simp at e2
def GrPost (l : List Ch) (w : World) (e : Ending) (w' : World) : Prop := ∃ b, e = .returned (.bool b) ∧ (b = true → ApplyOf l l) ∧ Below w.heap.size w w'
def GrRel (l : List Ch) (w : World) (n : Nat) (i : Value) (wr : World) : Prop := ∃ k : Nat, k ≤ n ∧ i = .int .i64 k ∧ GoodTo l k ∧ Below w.heap.size w wr
theorem below_grownN {B : Nat} {w wr : World} (h : Below B w wr) (hB : B ≤ wr.heap.size) (n : Nat) (os : Array Obj) : Below B w (grow (wr.drewN n) os) :=
  h.trans ⟨rfl, rfl, rfl, by show wr.heap.size ≤ (wr.heap ++ os).size; simp, fun k hk => by
    show (wr.heap ++ os)[k]? = wr.heap[k]?
    rw [Array.getElem?_append_left (by omega)]⟩
set_option maxHeartbeats 1000000 in
set_option maxRecDepth 100000 in
theorem goodRows_any (A : Option Addr) (n c : Nat) (l : List Ch) (w : World) (h : RdC w w.heap.size A n c l) (hs : ∀ f ∈ l, f.key.size ≤ 20 ∧ f.val.size ≤ 400) :
    Calls Try.prog 36 #[.slice A n c] w (GrPost l w) := by
  have HR := Lib.hid h
  have HL := Lib.hid h.1
  have HS := Lib.hid hs
  have hm := h.2.2.1
  have hnc := h.2.1
  unfold maxLen at hm
  clear h hs
  have mixed : Try.prog.follows .mixedOrders = true := by kernel_rfl
  go_enter Try.func36, Try.ntmps36
  go_wp2
  go_loopw [3] (fun i wr => GrRel l w n i wr) (fun i _ => n - (intOf i).toNat)
  case atStart => exact ⟨0, Nat.zero_le _, rfl, ⟨fun j f h => by omega, fun j f g h => by omega⟩, Below.refl _ _⟩
  case round =>
    obtain ⟨k, hk, rfl, hgd, hb⟩ := hrel
    have HG := Lib.hid hgd
    have HB := Lib.hid hb
    have hbn := fun n os => below_grownN hb hb.size n os
    have HBN := Lib.hid hbn
    clear hgd hb hbn
    by_cases hlt : k < n
    · obtain ⟨f, hf⟩ : ∃ f, l[k]? = some f := ⟨_, List.getElem?_eq_getElem (by rw [HL.out]; exact hlt)⟩
      have hsf := HS.out f (List.mem_of_getElem? hf)
      obtain ⟨b', off, rfl, hbb, q0, q1, q2⟩ := (HR.out.below HB.out).at_ hf
      have hbl : b' < wr.heap.size := Nat.lt_of_lt_of_le hbb HB.out.size
      have i0 := fun n os => cell_grown (a := ⟨b', off + k * 3, none⟩) hbl q0 n os
      have i1 := fun n os => cell_grown (a := ⟨b', off + k * 3 + 1, none⟩) hbl q1 n os
      have i2 := fun n os => cell_grown (a := ⟨b', off + k * 3 + 2, none⟩) hbl q2 n os
      have HF := Lib.hid hf
      have kz : (k : Int) < (n : Int) := by omega
      have hcg : ∀ n os, Calls Try.prog 35 #[.agg #[.string f.key, .string f.val, .bool f.gone]] (grow (wr.drewN n) os) fun e w' => e = .returned (.int .i64 (ckR f)) ∧ ∃ q os', w' = grow ((grow (wr.drewN n) os).drewN q) os' := fun n os =>
        (changeFault_all f (grow (wr.drewN n) os) (by omega)).mono fun _ _ ⟨he, o, ho⟩ => ⟨he, 0, #[o], by rw [ho, alloc_eq_grow]; rfl⟩
      clear hf q0 q1 q2 hsf
      by_cases hck : 0 < ckR f
      · generalize ckR f = kk at *
        go_wp2_with fail
        refine wp_region_quiet_grown (by assumption) (by kernel_rfl) ?_
        repeat (go_big_quiet_step (first | (go_at_call 35; refine Calls.grown_of (hcg _ _))))
        refine wpQuiet_nil ?_
        intro _ hw'
        obtain ⟨⟨nq, osq⟩, hw''⟩ := hw'
        subst hw''
        go_wp2
        go_ret
        exact ⟨false, rfl, by simp, HBN.out _ _⟩
      have hck2 : decide (0 < ckR f) = false := decide_eq_false hck
      generalize ckR f = kk at *
      obtain ⟨xk, xv, xg⟩ := f
      simp only at *
      cases xg with
      | true =>
        go_wp2_with fail
        refine wp_region_quiet_grown (by assumption) (by kernel_rfl) ?_
        repeat (go_big_quiet_step (first | (go_at_call 35; refine Calls.grown_of (hcg _ _))))
        refine wpQuiet_nil ?_
        intro _ hw'
        obtain ⟨⟨nq, osq⟩, hw''⟩ := hw'
        subst hw''
        go_wp2
        go_ret
        exact ⟨false, rfl, by simp, HBN.out _ _⟩
      | false =>
        by_cases hk0 : 0 < k
        · obtain ⟨kp, rfl⟩ : ∃ kp, k = kp + 1 := ⟨k - 1, by omega⟩
          obtain ⟨g, hg⟩ : ∃ g, l[kp]? = some g := ⟨_, List.getElem?_eq_getElem (by rw [HL.out]; omega)⟩
          obtain ⟨b2, off2, e2, _, r0, _, _⟩ := (HR.out.below HB.out).at_ hg
          injection e2 with e2
          injection e2 with e2 e3
          subst e2 e3
          have j0 := fun n os => cell_grown (a := ⟨b', off + kp * 3, none⟩) hbl r0 n os
          obtain ⟨yk, yv, yg⟩ := g
          simp only at *
          have HG2 := Lib.hid hg
          clear hg r0
          have z1 : (0 : Int) < (kp : Int) + 1 := by omega
          have z2 : IntKind.i64.wrap (kp : Int) = (kp : Int) := by rw [IntKind.wrap_i64]; omega
          have z3 : (kp : Int) < (n : Int) := by omega
          have z4 : ((kp : Int) + 1).toNat = kp + 1 := by omega
          cases hle : (Op.bytesLess xk.toList yk.toList || xk.toList == yk.toList) with
          | true =>
            go_wp2_with fail
            refine wp_region_quiet_grown (by assumption) (by kernel_rfl) ?_
            repeat (go_big_quiet_step (first | (go_at_call 35; refine Calls.grown_of (hcg _ _))))
            refine wpQuiet_nil ?_
            intro _ hw'
            obtain ⟨⟨nq, osq⟩, hw''⟩ := hw'
            subst hw''
            go_wp2
            go_ret
            exact ⟨false, rfl, by simp, HBN.out _ _⟩
          | false =>
            have HLT := Lib.hid (le_not_lt hle)
            go_wp2_with fail
            refine wp_region_quiet_grown (by assumption) (by kernel_rfl) ?_
            repeat (go_big_quiet_step (first | (go_at_call 35; refine Calls.grown_of (hcg _ _))))
            refine wpQuiet_nil ?_
            intro _ hw'
            obtain ⟨⟨nq, osq⟩, hw''⟩ := hw'
            subst hw''
            go_wp2
            go_roundw
            case rel => exact ⟨kp + 1 + 1, by omega, by go_num, HG.out.next HF.out rfl (fun g _ hg => by
              rw [show kp + 1 - 1 = kp by omega, HG2.out] at hg
              injection hg with hg
              rw [← hg]; exact HLT.out), HBN.out _ _⟩
            case measure => simp [intOf]; omega
        · have z1 : decide ((0 : Int) < (k : Int)) = false := decide_eq_false (by omega)
          have z0 : ¬ ((0 : Int) < (k : Int)) := by omega
          go_wp2_with fail
          refine wp_region_quiet_grown (by assumption) (by kernel_rfl) ?_
          repeat (go_big_quiet_step (first | (go_at_call 35; refine Calls.grown_of (hcg _ _))))
          refine wpQuiet_nil ?_
          intro _ hw'
          obtain ⟨⟨nq, osq⟩, hw''⟩ := hw'
          subst hw''
          go_wp2
          go_roundw
          case rel => exact ⟨k + 1, by omega, by go_num, HG.out.next HF.out rfl (fun g h _ => absurd h hk0), HBN.out _ _⟩
          case measure => simp [intOf]; omega
    · obtain rfl : k = n := by omega
      go_wp2
      go_ret
      exact ⟨true, rfl, fun _ => GoodTo.apply (by rw [HL.out]; exact HG.out), HB.out⟩
end Go.Proofs.Ytgkenknplepmeaa
