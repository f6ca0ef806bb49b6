/-
  WALKS: slices.Equal of texts and of files; record.Same.
-/
import Derived.Test.YtpghfefiifhbiaaGreatDoorRcE
import Derived.Test.YtpghfefiifhbiaaGreatDoorRcL
namespace Go.Proofs.YtpghfefiifhbiaaGreatDoor
open Go.RowKit

set_option maxHeartbeats 2000000 in
set_option maxRecDepth 100000 in
theorem equalT_gen (A A' : Option Addr) (n n' c c' B B' : Nat) (l l' : List ByteArray) (w : World) (h : RdS w B A n c l) (h' : RdS w B' A' n' c' l') (b0 : Bool) (hb0 : b0 = true ↔ l = l') :
    Calls Tryz.prog 24 #[.slice A n c, .slice A' n' c'] w (SmP w b0) := by
  have hm := h.2.2.1
  have hnc := h.2.1
  have hm' := h'.2.2.1
  have hnc' := h'.2.1
  unfold maxLen at hm hm'
  have HR := Lib.hid h
  have HR' := Lib.hid h'
  have HB0 := Lib.hid hb0
  clear h h' hb0
  by_cases hn : n = n'
  · subst hn
    go_enter Tryz.func24, Tryz.ntmps24
    go_wp2
    go_loopw [13] (fun i wr => SmRel w n l l' i wr) (fun i _ => n - (intOf i).toNat)
    case atStart => exact ⟨0, Nat.zero_le _, rfl, fun j hj => absurd hj (Nat.not_lt_zero j), 0, rfl⟩
    case round =>
      obtain ⟨k, hk, rfl, hpre, q, rfl⟩ := hrel
      have HPRE := Lib.hid hpre
      clear hpre
      by_cases hlt : k < n
      · obtain ⟨f, hf⟩ : ∃ f, l[k]? = some f := ⟨_, List.getElem?_eq_getElem (by rw [HR.out.1]; exact hlt)⟩
        obtain ⟨f', hf'⟩ : ∃ f, l'[k]? = some f := ⟨_, List.getElem?_eq_getElem (by rw [HR'.out.1]; exact hlt)⟩
        obtain ⟨b, off, rfl, hbb, hc1⟩ := HR.out.at_ hf
        obtain ⟨b', off', rfl, hbb', hc1'⟩ := HR'.out.at_ hf'
        have HF := Lib.hid hf
        have HF' := Lib.hid hf'
        clear hf hf'
        have hiz : (k : Int) < (n : Int) := by omega
        by_cases hx : f.toList = f'.toList
        · have hxb : (f.toList == f'.toList) = true := by rw [hx]; simp
          go_wp2
          go_quiet (fail)
          go_wp2
          go_roundw
          case rel => exact ⟨k + 1, by omega, by go_num, fun j hj => by
            rcases Nat.lt_or_ge j k with h1 | h1
            · exact HPRE.out j h1
            · obtain rfl : j = k := by omega
              rw [HF.out, HF'.out, toList_inj hx], by first | exact ⟨_, rfl⟩ | exact ⟨_, World.drewN_drewN _ _ _⟩⟩
          case measure => simp [intOf]; omega
        · have hxb : (f.toList == f'.toList) = false := by rw [beq_eq_false_iff_ne]; exact hx
          obtain rfl : b0 = false := by
            cases b0 with
            | false => rfl
            | true =>
              have h1 := HF.out
              rw [HB0.out.1 rfl, HF'.out] at h1
              injection h1 with h1
              exact absurd (by rw [h1]) hx
          go_wp2
          go_quiet (fail)
          go_wp2
          go_ret
          exact ⟨rfl, by first | exact ⟨_, rfl⟩ | exact ⟨_, World.drewN_drewN _ _ _⟩⟩
      · obtain rfl : k = n := by omega
        have hall : l = l' := all_same HR.out.1 HR'.out.1 HPRE.out
        have HT := Lib.hid (HB0.out.2 hall)
        clear hall
        go_wp2
        go_ret
        exact ⟨by rw [HT.out]; rfl, _, rfl⟩
  · obtain rfl : b0 = false := by
      cases b0 with
      | false => rfl
      | true => exact absurd (by rw [← HR.out.1, ← HR'.out.1, HB0.out.1 rfl]) hn
    have hnz : ((n : Int) == (n' : Int)) = false := by rw [beq_eq_false_iff_ne]; omega
    have hnn : ((n : Int) != (n' : Int)) = true := by simp [bne, hnz]
    go_enter Tryz.func24, Tryz.ntmps24
    go_wp2
    go_ret
    exact ⟨rfl, 0, rfl⟩

set_option maxHeartbeats 2000000 in
set_option maxRecDepth 100000 in
theorem equalF_gen (A A' : Option Addr) (n n' c c' B B' : Nat) (l l' : List F) (w : World) (h : RdF w B A n c l) (h' : RdF w B' A' n' c' l') (b0 : Bool) (hb0 : b0 = true ↔ l = l') :
    Calls Tryz.prog 25 #[.slice A n c, .slice A' n' c'] w (SmP w b0) := by
  have hm := h.2.2.1
  have hnc := h.2.1
  have hm' := h'.2.2.1
  have hnc' := h'.2.1
  unfold maxLen at hm hm'
  have HR := Lib.hid h
  have HR' := Lib.hid h'
  have HB0 := Lib.hid hb0
  clear h h' hb0
  by_cases hn : n = n'
  · subst hn
    go_enter Tryz.func25, Tryz.ntmps25
    go_wp2
    go_loopw [13] (fun i wr => SmRel w n l l' i wr) (fun i _ => n - (intOf i).toNat)
    case atStart => exact ⟨0, Nat.zero_le _, rfl, fun j hj => absurd hj (Nat.not_lt_zero j), 0, rfl⟩
    case round =>
      obtain ⟨k, hk, rfl, hpre, q, rfl⟩ := hrel
      have HPRE := Lib.hid hpre
      clear hpre
      by_cases hlt : k < n
      · obtain ⟨f, hf⟩ : ∃ f, l[k]? = some f := ⟨_, List.getElem?_eq_getElem (by rw [HR.out.1]; exact hlt)⟩
        obtain ⟨f', hf'⟩ : ∃ f, l'[k]? = some f := ⟨_, List.getElem?_eq_getElem (by rw [HR'.out.1]; exact hlt)⟩
        obtain ⟨b, off, rfl, hbb, hc1, hc2⟩ := HR.out.at_ hf
        obtain ⟨b', off', rfl, hbb', hc1', hc2'⟩ := HR'.out.at_ hf'
        have HF := Lib.hid hf
        have HF' := Lib.hid hf'
        clear hf hf'
        obtain ⟨x, t⟩ := f
        obtain ⟨x', t'⟩ := f'
        have hiz : (k : Int) < (n : Int) := by omega
        by_cases hx : x.toList = x'.toList
        · have hxb : (x.toList == x'.toList) = true := by rw [hx]; simp
          by_cases ht : t.toList = t'.toList
          · have htb : (t.toList == t'.toList) = true := by rw [ht]; simp
            go_wp2
            go_quiet (fail)
            go_wp2
            go_roundw
            case rel => exact ⟨k + 1, by omega, by go_num, fun j hj => by
              rcases Nat.lt_or_ge j k with h1 | h1
              · exact HPRE.out j h1
              · obtain rfl : j = k := by omega
                rw [HF.out, HF'.out, toList_inj hx, toList_inj ht], by first | exact ⟨_, rfl⟩ | exact ⟨_, World.drewN_drewN _ _ _⟩⟩
            case measure => simp [intOf]; omega
          · have htb : (t.toList == t'.toList) = false := by rw [beq_eq_false_iff_ne]; exact ht
            obtain rfl : b0 = false := by
              cases b0 with
              | false => rfl
              | true =>
                have h1 := HF.out
                rw [HB0.out.1 rfl, HF'.out] at h1
                injection h1 with h1
                injection h1 with _ h1; exact absurd (by rw [h1]) ht
            go_wp2
            go_quiet (fail)
            go_wp2
            go_ret
            exact ⟨rfl, by first | exact ⟨_, rfl⟩ | exact ⟨_, World.drewN_drewN _ _ _⟩⟩
        · have hxb : (x.toList == x'.toList) = false := by rw [beq_eq_false_iff_ne]; exact hx
          obtain rfl : b0 = false := by
            cases b0 with
            | false => rfl
            | true =>
              have h1 := HF.out
              rw [HB0.out.1 rfl, HF'.out] at h1
              injection h1 with h1
              injection h1 with h1 _; exact absurd (by rw [h1]) hx
          go_wp2
          go_quiet (fail)
          go_wp2
          go_ret
          exact ⟨rfl, by first | exact ⟨_, rfl⟩ | exact ⟨_, World.drewN_drewN _ _ _⟩⟩
      · obtain rfl : k = n := by omega
        have hall : l = l' := all_same HR.out.1 HR'.out.1 HPRE.out
        have HT := Lib.hid (HB0.out.2 hall)
        clear hall
        go_wp2
        go_ret
        exact ⟨by rw [HT.out]; rfl, _, rfl⟩
  · obtain rfl : b0 = false := by
      cases b0 with
      | false => rfl
      | true => exact absurd (by rw [← HR.out.1, ← HR'.out.1, HB0.out.1 rfl]) hn
    have hnz : ((n : Int) == (n' : Int)) = false := by rw [beq_eq_false_iff_ne]; omega
    have hnn : ((n : Int) != (n' : Int)) = true := by simp [bne, hnz]
    go_enter Tryz.func25, Tryz.ntmps25
    go_wp2
    go_ret
    exact ⟨rfl, 0, rfl⟩

set_option maxHeartbeats 4000000 in
set_option maxRecDepth 100000 in
theorem recSame_any (A0 A1 A2 A0' A1' A2' : Option Addr) (n0 n1 n2 c0 c1 c2 n0' n1' n2' c0' c1' c2' : Nat) (l0 m0 : List ByteArray) (l1 l2 m1 m2 : List F) (w : World)
    (h0 : RdS w w.heap.size A0 n0 c0 l0) (h1 : RdF w w.heap.size A1 n1 c1 l1) (h2 : RdF w w.heap.size A2 n2 c2 l2) (k0 : RdS w w.heap.size A0' n0' c0' m0) (k1 : RdF w w.heap.size A1' n1' c1' m1) (k2 : RdF w w.heap.size A2' n2' c2' m2) :
    Calls Tryz.prog 11 #[.agg #[.slice A0 n0 c0, .slice A1 n1 c1, .slice A2 n2 c2], .agg #[.slice A0' n0' c0', .slice A1' n1' c1', .slice A2' n2' c2']] w fun e w' => e = .returned (.bool (decide (l0 = m0) && decide (l1 = m1) && decide (l2 = m2))) ∧ Below w.heap.size w w' := by
  have hbx : Below w.heap.size w ((w.alloc (.cells #[.slice A0 n0 c0, .slice A1 n1 c1, .slice A2 n2 c2] 27)).alloc (.cells #[.slice A0' n0' c0', .slice A1' n1' c1', .slice A2' n2' c2'] 27)) := ((Below.refl _ w).alloc (Nat.le_refl _) _).alloc (by simp) _
  have p0 := (Blk.new w 27 #[.slice A0 n0 c0, .slice A1 n1 c1, .slice A2 n2 c2]).alloc (.cells #[.slice A0' n0' c0', .slice A1' n1' c1', .slice A2' n2' c2'] 27)
  have p1 := Blk.new (w.alloc (.cells #[.slice A0 n0 c0, .slice A1 n1 c1, .slice A2 n2 c2] 27)) 27 #[.slice A0' n0' c0', .slice A1' n1' c1', .slice A2' n2' c2']
  rw [show (w.alloc (.cells #[.slice A0 n0 c0, .slice A1 n1 c1, .slice A2 n2 c2] 27)).heap.size = w.heap.size + 1 by simp] at p1
  have HBX := Lib.hid hbx
  have P0 := Lib.hid p0
  have P1 := Lib.hid p1
  have H0 := Lib.hid (h0.below hbx)
  have H1 := Lib.hid (h1.below hbx)
  have H2 := Lib.hid (h2.below hbx)
  have K0 := Lib.hid (k0.below hbx)
  have K1 := Lib.hid (k1.below hbx)
  have K2 := Lib.hid (k2.below hbx)
  obtain ⟨x, hx⟩ : ∃ x, x = decide (l0 = m0) := ⟨_, rfl⟩
  obtain ⟨y, hy⟩ : ∃ y, y = decide (l1 = m1) := ⟨_, rfl⟩
  obtain ⟨z, hz⟩ : ∃ z, z = decide (l2 = m2) := ⟨_, rfl⟩
  rw [← hx, ← hy, ← hz]
  have X := Lib.hid (show x = true ↔ l0 = m0 by rw [hx]; exact decide_eq_true_iff)
  have Y := Lib.hid (show y = true ↔ l1 = m1 by rw [hy]; exact decide_eq_true_iff)
  have Z := Lib.hid (show z = true ↔ l2 = m2 by rw [hz]; exact decide_eq_true_iff)
  have a0 := p0.cell 0
  have a1 := p0.cell 1
  have a2 := p0.cell 2
  have b0 := p1.cell 0
  have b1 := p1.cell 1
  have b2 := p1.cell 2
  clear hbx p0 p1 h0 h1 h2 k0 k1 k2 hx hy hz
  go_enter Tryz.func11, Tryz.ntmps11
  go_wp2_with fail
  generalize (w.alloc (.cells #[.slice A0 n0 c0, .slice A1 n1 c1, .slice A2 n2 c2] 27)).alloc (.cells #[.slice A0' n0' c0', .slice A1' n1' c1', .slice A2' n2' c2'] 27) = W at *
  have e0 : W.cell? ⟨w.heap.size, 0, none⟩ = some (.slice A0 n0 c0) := P0.out.cell 0
  have e1 : W.cell? ⟨w.heap.size, 1, none⟩ = some (.slice A1 n1 c1) := P0.out.cell 1
  have e2 : W.cell? ⟨w.heap.size, 2, none⟩ = some (.slice A2 n2 c2) := P0.out.cell 2
  have f0 : W.cell? ⟨w.heap.size + 1, 0, none⟩ = some (.slice A0' n0' c0') := P1.out.cell 0
  have f1 : W.cell? ⟨w.heap.size + 1, 1, none⟩ = some (.slice A1' n1' c1') := P1.out.cell 1
  have f2 : W.cell? ⟨w.heap.size + 1, 2, none⟩ = some (.slice A2' n2' c2') := P1.out.cell 2
  clear a0 a1 a2 b0 b1 b2
  have hend : ∀ k, Below w.heap.size w (W.drewN k) := fun k => HBX.out.trans ((below_drews' W k).mono HBX.out.size)
  have HEND := Lib.hid hend
  clear hend
  refine (equalT_gen A0 A0' n0 n0' c0 c0' _ _ l0 m0 W H0.out K0.out x X.out).mono ?_
  rintro e w1 ⟨rfl, k, rfl⟩
  cases x with
  | false =>
    go_wp2
    go_ret
    exact ⟨rfl, HEND.out _⟩
  | true =>
    go_wp2_with fail
    refine (equalF_gen A1 A1' n1 n1' c1 c1' _ _ l1 m1 (W.drewN k) (H1.out.drewN k) (K1.out.drewN k) y Y.out).mono ?_
    rintro e w1 ⟨rfl, k2, rfl⟩
    cases y with
    | false =>
      go_wp2
      go_ret
      exact ⟨rfl, HEND.out _⟩
    | true =>
      go_wp2_with fail
      refine (equalF_gen A2 A2' n2 n2' c2 c2' _ _ l2 m2 (W.drewN (k + k2)) (H2.out.drewN _) (K2.out.drewN _) z Z.out).mono ?_
      rintro e w1 ⟨rfl, k3, rfl⟩
      cases z
      all_goals
        go_wp2
        go_ret
        exact ⟨rfl, HEND.out _⟩
end Go.Proofs.YtpghfefiifhbiaaGreatDoor
