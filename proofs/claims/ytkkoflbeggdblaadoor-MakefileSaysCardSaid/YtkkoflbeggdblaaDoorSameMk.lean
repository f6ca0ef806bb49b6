/-
  WALKS: hammerpondref.SameTexts and SameMake of two that read alike: true.
-/
import Derived.Test.YtkkoflbeggdblaaDoorParse
import Derived.Laws.StructEq
import Derived.Deep.RegionHeld3
namespace Go.Proofs.YtkkoflbeggdblaaDoor
open Go.RowKit

set_option maxHeartbeats 2000000 in
set_option maxRecDepth 100000 in
/-- hammerpondref.SameTexts of two slices that read as the same texts. -/
theorem sameTexts_any (A A' : Option Addr) (n c c' : Nat) (l : List ByteArray) (w : World) (h : RdS w w.heap.size A n c l) (h' : RdS w w.heap.size A' n c' l) :
    Calls Tryd.prog 47 #[.slice A n c, .slice A' n c'] w fun e w' => e = .returned (.bool true) ∧ ∃ k, w' = w.drewN k := by
  have hm := h.2.2.1
  have hnc := h.2.1
  unfold maxLen at hm
  have HR := Lib.hid h
  have HR' := Lib.hid h'
  clear h h'
  go_enter Tryd.func47, Tryd.ntmps47
  go_wp2
  go_loopw [5] (fun i wr => SameRel w n i wr) (fun i _ => n - (intOf i).toNat)
  case atStart => exact ⟨0, Nat.zero_le _, rfl, 0, rfl⟩
  case round =>
    obtain ⟨k, hk, rfl, q, rfl⟩ := hrel
    by_cases hlt : k < n
    · obtain ⟨f, hf⟩ : ∃ f, l[k]? = some f := ⟨_, List.getElem?_eq_getElem (by rw [HR.out.1]; exact hlt)⟩
      obtain ⟨b, off, rfl, hbb, hc1⟩ := HR.out.at_ hf
      obtain ⟨b', off', rfl, hbb', hc1'⟩ := HR'.out.at_ hf
      clear hf
      have hiz : (k : Int) < (n : Int) := by omega
      go_wp2
      go_quiet (fail)
      go_wp2
      go_roundw
      case rel => exact ⟨k + 1, by omega, by go_num, by first | exact ⟨_, rfl⟩ | exact ⟨_, World.drewN_drewN _ _ _⟩⟩
      case measure => simp [intOf]; omega
    · obtain rfl : k = n := by omega
      go_wp2
      go_ret
      exact ⟨rfl, _, rfl⟩
theorem Sl.two {w : World} {v v' : Value} {l : List ByteArray} (h : Sl w v l) (h' : Sl w v' l) : Calls Tryd.prog 47 #[v, v'] w fun e w' => e = .returned (.bool true) ∧ ∃ k, w' = w.drewN k := by
  obtain ⟨A, c, rfl, hr⟩ := h
  obtain ⟨A', c', rfl, hr'⟩ := h'
  exact sameTexts_any A A' _ c c' l w hr hr'
theorem Sl.drewN {w : World} {v : Value} {l : List ByteArray} (h : Sl w v l) (k : Nat) : Sl (w.drewN k) v l := h
def SmRel (w : World) (n : Nat) (i : Value) (wr : World) : Prop := ∃ k : Nat, k ≤ n ∧ i = .int .i64 k ∧ ∃ q, wr = w.drewN q
theorem below_of_drewN {w w' : World} {q : Nat} (h : w' = w.drewN q) : Below w.heap.size w w' := by rw [h]; exact below_drewN w q

set_option maxHeartbeats 4000000 in
set_option maxRecDepth 100000 in
theorem sameMake_any (m : Mk) (vv vr vp vv' vr' vp' : Value) (R R' : List Row3) (w : World) (h : MkRd w m vv vr vp R) (h' : MkRd w m vv' vr' vp' R') (hnv : m.vars.length ≤ 1000000) (hnr : m.rules.length ≤ 1000000) :
    Calls Tryd.prog 28 #[.agg #[vv, vr, vp], .agg #[vv', vr', vp']] w fun e w' => e = .returned (.bool true) ∧ Below w.heap.size w w' := by
  obtain ⟨Av, cv, rfl, _⟩ := h.vars
  obtain ⟨Ar, cr, rfl, _⟩ := h.rules
  obtain ⟨Ap, cp, rfl, _⟩ := h.phony
  obtain ⟨Av', cv', rfl, _⟩ := h'.vars
  obtain ⟨Ar', cr', rfl, _⟩ := h'.rules
  obtain ⟨Ap', cp', rfl, _⟩ := h'.phony
  have hl := h.len
  have hRR : R'.length = R.length := h'.len.trans h.len.symm
  rw [hRR] at h' ⊢
  have HL' := Lib.hid hRR
  clear hRR
  generalize hnr0 : R.length = nr at *
  generalize hw2 : (w.alloc (.cells #[.slice Av m.vars.length cv, .slice Ar nr cr, .slice Ap m.phony.length cp] 61)).alloc (.cells #[.slice Av' m.vars.length cv', .slice Ar' nr cr', .slice Ap' m.phony.length cp'] 61) = w2
  have hb2 : Below w.heap.size w w2 := by rw [← hw2]; exact ((Below.refl _ _).alloc (Nat.le_refl _) _).alloc (by simp) _
  have k1 : w2.heap[w.heap.size]? = some (.cells #[.slice Av m.vars.length cv, .slice Ar nr cr, .slice Ap m.phony.length cp] 61 (0, 0)) := by rw [← hw2]; exact (Below.heap_alloc _ _ _ (by simp)).trans (World.alloc_heap_new _ _)
  have k2 : w2.heap[w.heap.size + 1]? = some (.cells #[.slice Av' m.vars.length cv', .slice Ar' nr cr', .slice Ap' m.phony.length cp'] 61 (0, 0)) := by
    rw [← hw2]
    have := World.alloc_heap_new (w.alloc (.cells #[.slice Av m.vars.length cv, .slice Ar nr cr, .slice Ap m.phony.length cp] 61)) (.cells #[.slice Av' m.vars.length cv', .slice Ar' nr cr', .slice Ap' m.phony.length cp'] 61)
    rwa [World.size_alloc] at this
  have a0 : w2.cell? ⟨w.heap.size, 0, none⟩ = some (.slice Av m.vars.length cv) := by simp [World.cell?, k1]
  have a1 : w2.cell? ⟨w.heap.size, 1, none⟩ = some (.slice Ar nr cr) := by simp [World.cell?, k1]
  have a2 : w2.cell? ⟨w.heap.size, 2, none⟩ = some (.slice Ap m.phony.length cp) := by simp [World.cell?, k1]
  have b0 : w2.cell? ⟨w.heap.size + 1, 0, none⟩ = some (.slice Av' m.vars.length cv') := by simp [World.cell?, k2]
  have b1 : w2.cell? ⟨w.heap.size + 1, 1, none⟩ = some (.slice Ar' nr cr') := by simp [World.cell?, k2]
  have b2 : w2.cell? ⟨w.heap.size + 1, 2, none⟩ = some (.slice Ap' m.phony.length cp') := by simp [World.cell?, k2]
  have HD := Lib.hid (h.belowS hb2)
  have HD' := Lib.hid (h'.belowS hb2)
  have HB := Lib.hid hb2
  have HL := Lib.hid hl
  have HR0 := Lib.hid hnr0
  clear h h' hb2 k1 k2 hl hnr0
  have hnr' : nr ≤ 1000000 := by rw [HL.out]; exact hnr
  have HNR := Lib.hid hnr
  clear hnr
  go_enter Tryd.func28, Tryd.ntmps28
  go_wp2_with fail
  clear hw2
  refine (Sl.two HD.out.phony HD'.out.phony).mono ?_
  rintro e w3 ⟨rfl, q, rfl⟩
  generalize hnv0 : m.vars.length = nv at *
  have HNV := Lib.hid hnv0
  clear hnv0
  go_wp2
  go_loopw [6] (fun i wr => SmRel w2 nv i wr) (fun i _ => nv - (intOf i).toNat)
  case atStart => exact ⟨0, Nat.zero_le _, rfl, _, rfl⟩
  case round =>
    obtain ⟨k, hk, rfl, q1, rfl⟩ := hrel
    by_cases hlt : k < nv
    · obtain ⟨f, hf⟩ : ∃ f, m.vars[k]? = some f := ⟨_, List.getElem?_eq_getElem (by rw [HNV.out]; exact hlt)⟩
      obtain ⟨A1, c1, e1, hr1⟩ := HD.out.vars
      obtain ⟨A2, c2, e2, hr2⟩ := HD'.out.vars
      rw [HNV.out] at e1 e2
      simp only [Value.slice.injEq, true_and] at e1 e2
      obtain ⟨rfl, rfl⟩ := e1
      obtain ⟨rfl, rfl⟩ := e2
      obtain ⟨b, off, rfl, hbb, hc1, hc2⟩ := hr1.at_ hf
      obtain ⟨b', off', rfl, hbb', hc1', hc2'⟩ := hr2.at_ hf
      clear hf hr1 hr2
      obtain ⟨x, t⟩ := f
      have hiz : (k : Int) < (nv : Int) := by omega
      go_wp2
      go_quiet (fail)
      go_wp2
      go_roundw
      case rel => exact ⟨k + 1, by omega, by go_num, by first | exact ⟨_, rfl⟩ | exact ⟨_, World.drewN_drewN _ _ _⟩⟩
      case measure => simp [intOf]; omega
    · obtain rfl : k = nv := by omega
      go_wp2
      go_loopw [7] (fun i wr => SmRel w2 nr i wr) (fun i _ => nr - (intOf i).toNat)
      case atStart => exact ⟨0, Nat.zero_le _, rfl, _, rfl⟩
      case round =>
        obtain ⟨j, hj, rfl, q2, rfl⟩ := hrel
        by_cases hlt2 : j < nr
        · obtain ⟨u, hu⟩ : ∃ u, m.rules[j]? = some u := ⟨_, List.getElem?_eq_getElem (by rw [← HL.out]; exact hlt2)⟩
          obtain ⟨x, hx⟩ : ∃ x, R[j]? = some x := ⟨_, List.getElem?_eq_getElem (by rw [HR0.out]; exact hlt2)⟩
          obtain ⟨y, hy⟩ : ∃ y, R'[j]? = some y := ⟨_, List.getElem?_eq_getElem (by rw [HL'.out]; exact hlt2)⟩
          obtain ⟨s1, s2, s3⟩ := HD.out.each j x u hx hu
          obtain ⟨z1, z2, z3⟩ := HD'.out.each j y u hy hu
          obtain ⟨A1, c1, e1, hr1⟩ := HD.out.rules
          obtain ⟨A2, c2, e2, hr2⟩ := HD'.out.rules
          rw [HR0.out] at e1
          rw [HL'.out] at e2
          simp only [Value.slice.injEq, true_and] at e1 e2
          obtain ⟨rfl, rfl⟩ := e1
          obtain ⟨rfl, rfl⟩ := e2
          obtain ⟨b, off, rfl, hbb, g0, g1, g2⟩ := hr1.at_ hx
          obtain ⟨b', off', rfl, hbb', h0, h1, h2⟩ := hr2.at_ hy
          have S1 := Lib.hid s1
          have S2 := Lib.hid s2
          have S3 := Lib.hid s3
          have Z1 := Lib.hid z1
          have Z2 := Lib.hid z2
          have Z3 := Lib.hid z3
          obtain ⟨T1, t1, e3, _⟩ := s1
          obtain ⟨T2, t2, e4, _⟩ := s2
          obtain ⟨T3, t3, e5, _⟩ := s3
          obtain ⟨U1, u1, e6, _⟩ := z1
          obtain ⟨U2, u2, e7, _⟩ := z2
          obtain ⟨U3, u3, e8, _⟩ := z3
          rw [e3] at g0 S1
          rw [e4] at g1 S2
          rw [e5] at g2 S3
          rw [e6] at h0 Z1
          rw [e7] at h1 Z2
          rw [e8] at h2 Z3
          have hiz : (j : Int) < (nr : Int) := by omega
          clear hu hx hy hr1 hr2 e3 e4 e5 e6 e7 e8
          go_wp2_with fail
          go_region_held3 (fun w' => w'.cell? ⟨w.heap.size, 1, none⟩ = some (.slice (some ⟨b, off, none⟩) nr cr) ∧ w'.cell? ⟨w.heap.size + 1, 1, none⟩ = some (.slice (some ⟨b', off', none⟩) nr cr') ∧ w'.cell? ⟨b, off + j * 3, none⟩ = some (.slice T1 u.1.length t1) ∧ w'.cell? ⟨b', off' + j * 3, none⟩ = some (.slice U1 u.1.length u1))
            (first | exact ⟨a1, b1, g0, h0⟩ | go_keep)
            (first | (go_at_call 47; refine (Sl.two (S1.out.drewN _) (Z1.out.drewN _)).mono ?_; rintro e w' ⟨rfl, q3, rfl⟩))
          go_wp2_with fail
          go_region_held3 (fun w' => w'.cell? ⟨w.heap.size, 1, none⟩ = some (.slice (some ⟨b, off, none⟩) nr cr) ∧ w'.cell? ⟨w.heap.size + 1, 1, none⟩ = some (.slice (some ⟨b', off', none⟩) nr cr') ∧ w'.cell? ⟨b, off + j * 3 + 1, none⟩ = some (.slice T2 u.2.1.length t2) ∧ w'.cell? ⟨b', off' + j * 3 + 1, none⟩ = some (.slice U2 u.2.1.length u2))
            (first | exact ⟨a1, b1, g1, h1⟩ | go_keep)
            (first | (go_at_call 47; refine (Sl.two (S2.out.drewN _) (Z2.out.drewN _)).mono ?_; rintro e w' ⟨rfl, q4, rfl⟩))
          go_wp2_with fail
          go_region_held3 (fun w' => w'.cell? ⟨w.heap.size, 1, none⟩ = some (.slice (some ⟨b, off, none⟩) nr cr) ∧ w'.cell? ⟨w.heap.size + 1, 1, none⟩ = some (.slice (some ⟨b', off', none⟩) nr cr') ∧ w'.cell? ⟨b, off + j * 3 + 2, none⟩ = some (.slice T3 u.2.2.length t3) ∧ w'.cell? ⟨b', off' + j * 3 + 2, none⟩ = some (.slice U3 u.2.2.length u3))
            (first | exact ⟨a1, b1, g2, h2⟩ | go_keep)
            (first | (go_at_call 47; refine (Sl.two (S3.out.drewN _) (Z3.out.drewN _)).mono ?_; rintro e w' ⟨rfl, q5, rfl⟩))
          go_wp2
          go_roundw
          case rel => exact ⟨j + 1, by omega, by go_num, by first | exact ⟨_, rfl⟩ | exact ⟨_, World.drewN_drewN _ _ _⟩⟩
          case measure => simp [intOf]; omega
        · obtain rfl : j = nr := by omega
          go_wp2
          go_ret
          exact ⟨rfl, HB.out.trans ((below_drewN w2 _).mono HB.out.size)⟩
end Go.Proofs.YtkkoflbeggdblaaDoor
