/-
  WALKS: hammerpondref.SameRecord; hammerpondlaw.LightRecord: what it lets through.
-/
import Derived.Test.YtlkpbpecgdphaaaTexts
import Derived.Test.YtlkpbpecgdphaaaLight
import Derived.Test.YtlkpbpecgdphaaaRd
import Derived.Laws.StructEq
namespace Go.Proofs.Ytlkpbpecgdphaaa
open Go.RowKit

def SmP (w : World) (b : Bool) (e : Ending) (w' : World) : Prop := e = .returned (.bool b) ∧ ∃ k, w' = w.drewN k
def SrRel {α : Type} (w : World) (n : Nat) (l l' : List α) (i : Value) (wr : World) : Prop := ∃ k : Nat, k ≤ n ∧ i = .int .i64 k ∧ (∀ j : Nat, j < k → l[j]? = l'[j]?) ∧ ∃ q, wr = w.drewN q
theorem all_same {α : Type} {l l' : List α} {n : Nat} (h : l.length = n) (h' : l'.length = n) (hp : ∀ j : Nat, j < n → l[j]? = l'[j]?) : l = l' := by
  apply List.ext_getElem?
  intro j
  rcases Nat.lt_or_ge j n with hj | hj
  · exact hp j hj
  · rw [List.getElem?_eq_none (by omega), List.getElem?_eq_none (by omega)]

set_option maxHeartbeats 2000000 in
set_option maxRecDepth 100000 in
theorem sameT_gen (A A' : Option Addr) (n n' c c' B B' : Nat) (l l' : List ByteArray) (w : World) (h : RdS w B A n c l) (h' : RdS w B' A' n' c' l') (b0 : Bool) (hb0 : b0 = true ↔ l = l') :
    Calls Try.prog 29 #[.slice A n c, .slice A' n' c'] w (SmP w b0) := by
  have hm := h.2.2.1
  have hnc := h.2.1
  have hm' := h'.2.2.1
  have hnc' := h'.2.1
  unfold maxLen at hm hm'
  have HR := Lib.hid h
  have HR' := Lib.hid h'
  have HB0 := Lib.hid hb0
  clear h h' hb0
  by_cases hn : n = n'
  · subst hn
    go_enter Try.func29, Try.ntmps29
    go_wp2
    go_loopw [5] (fun i wr => SrRel w n l l' i wr) (fun i _ => n - (intOf i).toNat)
    case atStart => exact ⟨0, Nat.zero_le _, rfl, fun j hj => absurd hj (Nat.not_lt_zero j), 0, rfl⟩
    case round =>
      obtain ⟨k, hk, rfl, hpre, q, rfl⟩ := hrel
      have HPRE := Lib.hid hpre
      clear hpre
      by_cases hlt : k < n
      · obtain ⟨f, hf⟩ : ∃ f, l[k]? = some f := ⟨_, List.getElem?_eq_getElem (by rw [HR.out.1]; exact hlt)⟩
        obtain ⟨f', hf'⟩ : ∃ f, l'[k]? = some f := ⟨_, List.getElem?_eq_getElem (by rw [HR'.out.1]; exact hlt)⟩
        obtain ⟨b, off, rfl, hbb, hc1⟩ := HR.out.at_ hf
        obtain ⟨b', off', rfl, hbb', hc1'⟩ := HR'.out.at_ hf'
        have HF := Lib.hid hf
        have HF' := Lib.hid hf'
        clear hf hf'
        have hiz : (k : Int) < (n : Int) := by omega
        by_cases hx : f.toList = f'.toList
        · have hxb : (f.toList == f'.toList) = true := by rw [hx]; simp
          go_wp2
          go_quiet (fail)
          go_wp2
          go_roundw
          case rel => exact ⟨k + 1, by omega, by go_num, fun j hj => by
            rcases Nat.lt_or_ge j k with h1 | h1
            · exact HPRE.out j h1
            · obtain rfl : j = k := by omega
              rw [HF.out, HF'.out, toList_inj hx], by first | exact ⟨_, rfl⟩ | exact ⟨_, World.drewN_drewN _ _ _⟩⟩
          case measure => simp [intOf]; omega
        · have hxb : (f.toList == f'.toList) = false := by rw [beq_eq_false_iff_ne]; exact hx
          obtain rfl : b0 = false := by
            cases b0 with
            | false => rfl
            | true =>
              have h1 := HF.out
              rw [HB0.out.1 rfl, HF'.out] at h1
              injection h1 with h1
              exact absurd (by rw [h1]) hx
          go_wp2
          go_quiet (fail)
          go_wp2
          go_ret
          exact ⟨rfl, by first | exact ⟨_, rfl⟩ | exact ⟨_, World.drewN_drewN _ _ _⟩⟩
      · obtain rfl : k = n := by omega
        have hall : l = l' := all_same HR.out.1 HR'.out.1 HPRE.out
        have HT := Lib.hid (HB0.out.2 hall)
        clear hall
        go_wp2
        go_ret
        exact ⟨by rw [HT.out]; rfl, _, rfl⟩
  · obtain rfl : b0 = false := by
      cases b0 with
      | false => rfl
      | true => exact absurd (by rw [← HR.out.1, ← HR'.out.1, HB0.out.1 rfl]) hn
    have hnz : ((n : Int) == (n' : Int)) = false := by rw [beq_eq_false_iff_ne]; omega
    have hnn : ((n : Int) != (n' : Int)) = true := by simp [bne, hnz]
    go_enter Try.func29, Try.ntmps29
    go_wp2
    go_ret
    exact ⟨rfl, 0, rfl⟩

set_option maxHeartbeats 2000000 in
set_option maxRecDepth 100000 in
theorem sameF_gen (A A' : Option Addr) (n n' c c' B B' : Nat) (l l' : List F) (w : World) (h : RdF w B A n c l) (h' : RdF w B' A' n' c' l') (b0 : Bool) (hb0 : b0 = true ↔ l = l') :
    Calls Try.prog 30 #[.slice A n c, .slice A' n' c'] w (SmP w b0) := by
  have hm := h.2.2.1
  have hnc := h.2.1
  have hm' := h'.2.2.1
  have hnc' := h'.2.1
  unfold maxLen at hm hm'
  have HR := Lib.hid h
  have HR' := Lib.hid h'
  have HB0 := Lib.hid hb0
  clear h h' hb0
  by_cases hn : n = n'
  · subst hn
    go_enter Try.func30, Try.ntmps30
    go_wp2
    go_loopw [5] (fun i wr => SrRel w n l l' i wr) (fun i _ => n - (intOf i).toNat)
    case atStart => exact ⟨0, Nat.zero_le _, rfl, fun j hj => absurd hj (Nat.not_lt_zero j), 0, rfl⟩
    case round =>
      obtain ⟨k, hk, rfl, hpre, q, rfl⟩ := hrel
      have HPRE := Lib.hid hpre
      clear hpre
      by_cases hlt : k < n
      · obtain ⟨f, hf⟩ : ∃ f, l[k]? = some f := ⟨_, List.getElem?_eq_getElem (by rw [HR.out.1]; exact hlt)⟩
        obtain ⟨f', hf'⟩ : ∃ f, l'[k]? = some f := ⟨_, List.getElem?_eq_getElem (by rw [HR'.out.1]; exact hlt)⟩
        obtain ⟨b, off, rfl, hbb, hc1, hc2⟩ := HR.out.at_ hf
        obtain ⟨b', off', rfl, hbb', hc1', hc2'⟩ := HR'.out.at_ hf'
        have HF := Lib.hid hf
        have HF' := Lib.hid hf'
        clear hf hf'
        obtain ⟨x, t⟩ := f
        obtain ⟨x', t'⟩ := f'
        have hiz : (k : Int) < (n : Int) := by omega
        by_cases hx : x.toList = x'.toList
        · have hxb : (x.toList == x'.toList) = true := by rw [hx]; simp
          by_cases ht : t.toList = t'.toList
          · have htb : (t.toList == t'.toList) = true := by rw [ht]; simp
            go_wp2
            go_quiet (fail)
            go_wp2
            go_roundw
            case rel => exact ⟨k + 1, by omega, by go_num, fun j hj => by
              rcases Nat.lt_or_ge j k with h1 | h1
              · exact HPRE.out j h1
              · obtain rfl : j = k := by omega
                rw [HF.out, HF'.out, toList_inj hx, toList_inj ht], by first | exact ⟨_, rfl⟩ | exact ⟨_, World.drewN_drewN _ _ _⟩⟩
            case measure => simp [intOf]; omega
          · have htb : (t.toList == t'.toList) = false := by rw [beq_eq_false_iff_ne]; exact ht
            obtain rfl : b0 = false := by
              cases b0 with
              | false => rfl
              | true =>
                have h1 := HF.out
                rw [HB0.out.1 rfl, HF'.out] at h1
                injection h1 with h1
                injection h1 with _ h1; exact absurd (by rw [h1]) ht
            go_wp2
            go_quiet (fail)
            go_wp2
            go_ret
            exact ⟨rfl, by first | exact ⟨_, rfl⟩ | exact ⟨_, World.drewN_drewN _ _ _⟩⟩
        · have hxb : (x.toList == x'.toList) = false := by rw [beq_eq_false_iff_ne]; exact hx
          obtain rfl : b0 = false := by
            cases b0 with
            | false => rfl
            | true =>
              have h1 := HF.out
              rw [HB0.out.1 rfl, HF'.out] at h1
              injection h1 with h1
              injection h1 with h1 _; exact absurd (by rw [h1]) hx
          go_wp2
          go_quiet (fail)
          go_wp2
          go_ret
          exact ⟨rfl, by first | exact ⟨_, rfl⟩ | exact ⟨_, World.drewN_drewN _ _ _⟩⟩
      · obtain rfl : k = n := by omega
        have hall : l = l' := all_same HR.out.1 HR'.out.1 HPRE.out
        have HT := Lib.hid (HB0.out.2 hall)
        clear hall
        go_wp2
        go_ret
        exact ⟨by rw [HT.out]; rfl, _, rfl⟩
  · obtain rfl : b0 = false := by
      cases b0 with
      | false => rfl
      | true => exact absurd (by rw [← HR.out.1, ← HR'.out.1, HB0.out.1 rfl]) hn
    have hnz : ((n : Int) == (n' : Int)) = false := by rw [beq_eq_false_iff_ne]; omega
    have hnn : ((n : Int) != (n' : Int)) = true := by simp [bne, hnz]
    go_enter Try.func30, Try.ntmps30
    go_wp2
    go_ret
    exact ⟨rfl, 0, rfl⟩
end Go.Proofs.Ytlkpbpecgdphaaa
namespace Go.Proofs.Ytlkpbpecgdphaaa
open Go.RowKit

theorem below_drews' (w : World) (n : Nat) : Below w.heap.size w (w.drewN n) := by
  induction n with
  | zero => exact Below.refl _ _
  | succ n ih => exact ih.trans (Below.refl _ _).drew
set_option maxHeartbeats 2000000 in
set_option maxRecDepth 100000 in
theorem sameR_gen (A0 A1 A2 A0' A1' A2' : Option Addr) (n0 n1 n2 c0 c1 c2 n0' n1' n2' c0' c1' c2' : Nat) (l0 m0 : List ByteArray) (l1 l2 m1 m2 : List F) (w : World)
    (h0 : RdS w w.heap.size A0 n0 c0 l0) (h1 : RdF w w.heap.size A1 n1 c1 l1) (h2 : RdF w w.heap.size A2 n2 c2 l2) (k0 : RdS w w.heap.size A0' n0' c0' m0) (k1 : RdF w w.heap.size A1' n1' c1' m1) (k2 : RdF w w.heap.size A2' n2' c2' m2) :
    Calls Try.prog 13 #[.agg #[.slice A0 n0 c0, .slice A1 n1 c1, .slice A2 n2 c2], .agg #[.slice A0' n0' c0', .slice A1' n1' c1', .slice A2' n2' c2']] w fun e w' => e = .returned (.bool (decide (l0 = m0) && decide (l1 = m1) && decide (l2 = m2))) ∧ Below w.heap.size w w' := by
  have hbx : Below w.heap.size w ((w.alloc (.cells #[.slice A0 n0 c0, .slice A1 n1 c1, .slice A2 n2 c2] 29)).alloc (.cells #[.slice A0' n0' c0', .slice A1' n1' c1', .slice A2' n2' c2'] 29)) := ((Below.refl _ w).alloc (Nat.le_refl _) _).alloc (by simp) _
  have p0 := (Blk.new w 29 #[.slice A0 n0 c0, .slice A1 n1 c1, .slice A2 n2 c2]).alloc (.cells #[.slice A0' n0' c0', .slice A1' n1' c1', .slice A2' n2' c2'] 29)
  have p1 := Blk.new (w.alloc (.cells #[.slice A0 n0 c0, .slice A1 n1 c1, .slice A2 n2 c2] 29)) 29 #[.slice A0' n0' c0', .slice A1' n1' c1', .slice A2' n2' c2']
  rw [show (w.alloc (.cells #[.slice A0 n0 c0, .slice A1 n1 c1, .slice A2 n2 c2] 29)).heap.size = w.heap.size + 1 by simp] at p1
  have HBX := Lib.hid hbx
  have P0 := Lib.hid p0
  have P1 := Lib.hid p1
  have H0 := Lib.hid (h0.below hbx)
  have H1 := Lib.hid (h1.below hbx)
  have H2 := Lib.hid (h2.below hbx)
  have K0 := Lib.hid (k0.below hbx)
  have K1 := Lib.hid (k1.below hbx)
  have K2 := Lib.hid (k2.below hbx)
  obtain ⟨x, hx⟩ : ∃ x, x = decide (l0 = m0) := ⟨_, rfl⟩
  obtain ⟨y, hy⟩ : ∃ y, y = decide (l1 = m1) := ⟨_, rfl⟩
  obtain ⟨z, hz⟩ : ∃ z, z = decide (l2 = m2) := ⟨_, rfl⟩
  rw [← hx, ← hy, ← hz]
  have X := Lib.hid (show x = true ↔ l0 = m0 by rw [hx]; exact decide_eq_true_iff)
  have Y := Lib.hid (show y = true ↔ l1 = m1 by rw [hy]; exact decide_eq_true_iff)
  have Z := Lib.hid (show z = true ↔ l2 = m2 by rw [hz]; exact decide_eq_true_iff)
  have a0 := p0.cell 0
  have a1 := p0.cell 1
  have a2 := p0.cell 2
  have b0 := p1.cell 0
  have b1 := p1.cell 1
  have b2 := p1.cell 2
  clear hbx p0 p1 h0 h1 h2 k0 k1 k2 hx hy hz
  go_enter Try.func13, Try.ntmps13
  go_wp2_with fail
  generalize (w.alloc (.cells #[.slice A0 n0 c0, .slice A1 n1 c1, .slice A2 n2 c2] 29)).alloc (.cells #[.slice A0' n0' c0', .slice A1' n1' c1', .slice A2' n2' c2'] 29) = W at *
  have e0 : W.cell? ⟨w.heap.size, 0, none⟩ = some (.slice A0 n0 c0) := P0.out.cell 0
  have e1 : W.cell? ⟨w.heap.size, 1, none⟩ = some (.slice A1 n1 c1) := P0.out.cell 1
  have e2 : W.cell? ⟨w.heap.size, 2, none⟩ = some (.slice A2 n2 c2) := P0.out.cell 2
  have f0 : W.cell? ⟨w.heap.size + 1, 0, none⟩ = some (.slice A0' n0' c0') := P1.out.cell 0
  have f1 : W.cell? ⟨w.heap.size + 1, 1, none⟩ = some (.slice A1' n1' c1') := P1.out.cell 1
  have f2 : W.cell? ⟨w.heap.size + 1, 2, none⟩ = some (.slice A2' n2' c2') := P1.out.cell 2
  clear a0 a1 a2 b0 b1 b2
  refine (sameT_gen A0 A0' n0 n0' c0 c0' _ _ l0 m0 W H0.out K0.out x X.out).mono ?_
  rintro e w1 ⟨rfl, k, rfl⟩
  go_wp2_with fail
  refine (sameF_gen A1 A1' n1 n1' c1 c1' _ _ l1 m1 (W.drewN k) (H1.out.drewN k) (K1.out.drewN k) y Y.out).mono ?_
  rintro e w1 ⟨rfl, k2, rfl⟩
  go_wp2_with fail
  refine (sameF_gen A2 A2' n2 n2' c2 c2' _ _ l2 m2 (W.drewN (k + k2)) (H2.out.drewN _) (K2.out.drewN _) z Z.out).mono ?_
  rintro e w1 ⟨rfl, k3, rfl⟩
  clear e0 e1 e2 f0 f1 f2
  have hend : Below w.heap.size w (W.drewN (k + k2 + k3)) := HBX.out.trans ((below_drews' W (k + k2 + k3)).mono HBX.out.size)
  have HEND := Lib.hid hend
  clear hend
  cases x <;> cases y <;> cases z
  all_goals
    go_wp2
    go_ret
    exact ⟨rfl, HEND.out⟩

/-- What LightRecord lets through. -/
def LitR (l0 : List ByteArray) (l1 l2 : List F) : Prop := ShortT l0 4 320 ∧ l1.length ≤ 4 ∧ l2.length ≤ 4 ∧ (∀ f ∈ l1, f.1.size ≤ 20 ∧ f.2.size ≤ 60) ∧ ∀ f ∈ l2, f.1.size ≤ 20 ∧ f.2.size ≤ 60
def LrRel (l : List F) (i : Value) : Prop := ∃ k : Nat, k ≤ l.length ∧ i = .int .i64 k ∧ ∀ j f, j < k → l[j]? = some f → f.1.size ≤ 20 ∧ f.2.size ≤ 60
def LrP (l0 : List ByteArray) (l1 l2 : List F) (w : World) (e : Ending) (w' : World) : Prop := ∃ b, e = .returned (.bool b) ∧ (b = true → LitR l0 l1 l2) ∧ Below w.heap.size w w'
theorem lr_all {l : List F} (h : ∀ j f, j < l.length → l[j]? = some f → f.1.size ≤ 20 ∧ f.2.size ≤ 60) : ∀ f ∈ l, f.1.size ≤ 20 ∧ f.2.size ≤ 60 := fun f hf => by
  obtain ⟨j, hj, e⟩ := List.mem_iff_getElem.1 hf
  exact h j f hj (by rw [List.getElem?_eq_getElem hj, e])
theorem lr_next {l : List F} {k : Nat} {f : F} (h : ∀ j f, j < k → l[j]? = some f → f.1.size ≤ 20 ∧ f.2.size ≤ 60) (hf : l[k]? = some f) (h1 : f.1.size ≤ 20) (h2 : f.2.size ≤ 60) : ∀ j f, j < k + 1 → l[j]? = some f → f.1.size ≤ 20 ∧ f.2.size ≤ 60 := fun j g hj hg => by
  rcases Nat.lt_or_ge j k with h3 | h3
  · exact h j g h3 hg
  · obtain rfl : j = k := by omega
    rw [hf] at hg
    injection hg with hg
    subst hg
    exact ⟨h1, h2⟩
set_option maxHeartbeats 8000000 in
set_option maxRecDepth 100000 in
theorem lightR_any (A0 A1 A2 : Option Addr) (n0 n1 n2 c0 c1 c2 : Nat) (l0 : List ByteArray) (l1 l2 : List F) (w : World)
    (h0 : RdS w w.heap.size A0 n0 c0 l0) (h1 : RdF w w.heap.size A1 n1 c1 l1) (h2 : RdF w w.heap.size A2 n2 c2 l2) :
    Calls Try.prog 6 #[.agg #[.slice A0 n0 c0, .slice A1 n1 c1, .slice A2 n2 c2]] w (LrP l0 l1 l2 w) := by
  have hbx : Below w.heap.size w (w.alloc (.cells #[.slice A0 n0 c0, .slice A1 n1 c1, .slice A2 n2 c2] 29)) := (Below.refl _ w).alloc (Nat.le_refl _) _
  have p0 := Blk.new w 29 #[.slice A0 n0 c0, .slice A1 n1 c1, .slice A2 n2 c2]
  have hm1 := h1.2.2.1
  have hnc1 := h1.2.1
  have hm2 := h2.2.2.1
  have hnc2 := h2.2.1
  unfold maxLen at hm1 hm2
  have HBX := Lib.hid hbx
  have P0 := Lib.hid p0
  have HH0 := Lib.hid (RdS.belowS h0 hbx)
  have H1 := Lib.hid (h1.below hbx)
  have H2 := Lib.hid (h2.below hbx)
  have L1 := Lib.hid h1.1
  have L2 := Lib.hid h2.1
  have a0 := p0.cell 0
  clear hbx p0 h0 h1 h2
  go_enter Try.func6, Try.ntmps6
  go_wp2_with fail
  generalize w.alloc (.cells #[.slice A0 n0 c0, .slice A1 n1 c1, .slice A2 n2 c2] 29) = W at *
  have HT := Lib.hid (lightTexts_any A0 n0 c0 l0 4 320 W HH0.out (by omega) (by omega))
  rw [show ((4 : Nat) : Int) = 4 from rfl, show ((320 : Nat) : Int) = 320 from rfl] at HT
  refine HT.out.mono ?_
  rintro e w1 ⟨b, rfl, hb, rfl⟩
  have HB := Lib.hid hb
  clear hb HT a0
  have e0 : W.cell? ⟨w.heap.size, 0, none⟩ = some (.slice A0 n0 c0) := P0.out.cell 0
  have e1 : W.cell? ⟨w.heap.size, 1, none⟩ = some (.slice A1 n1 c1) := P0.out.cell 1
  have e2 : W.cell? ⟨w.heap.size, 2, none⟩ = some (.slice A2 n2 c2) := P0.out.cell 2
  cases b with
  | false =>
    go_wp2
    go_ret
    exact ⟨false, rfl, by simp, HBX.out⟩
  | true =>
    by_cases q1 : 4 < n1
    · have d1 : (4 : Int) < (n1 : Int) := by omega
      go_wp2
      go_ret
      exact ⟨false, rfl, by simp, HBX.out⟩
    by_cases q2 : 4 < n2
    · have d1 : decide ((4 : Int) < (n1 : Int)) = false := decide_eq_false (by omega)
      have d2 : (4 : Int) < (n2 : Int) := by omega
      go_wp2
      go_ret
      exact ⟨false, rfl, by simp, HBX.out⟩
    have d1 : decide ((4 : Int) < (n1 : Int)) = false := decide_eq_false (by omega)
    have d2 : decide ((4 : Int) < (n2 : Int)) = false := decide_eq_false (by omega)
    go_wp2
    go_loop [3] (fun i => LrRel l1 i) (fun i => n1 - (intOf i).toNat)
    case atStart => exact ⟨0, Nat.zero_le _, rfl, fun j g h => by omega⟩
    case round =>
      obtain ⟨k, hk, rfl, hno⟩ := hrel
      have hkn : k ≤ n1 := by rw [← L1.out]; exact hk
      clear hk
      have HN := Lib.hid hno
      clear hno
      by_cases hlt : k < n1
      · obtain ⟨f, hf⟩ : ∃ f, l1[k]? = some f := ⟨_, List.getElem?_eq_getElem (by rw [L1.out]; exact hlt)⟩
        obtain ⟨b', off, rfl, _, hc1, hc2⟩ := H1.out.at_ hf
        have hkz : (k : Int) < (n1 : Int) := by omega
        have HF := Lib.hid hf
        clear hf
        obtain ⟨fx, ft⟩ := f
        dsimp only at hc1 hc2
        by_cases s1 : 20 < fx.size
        · have t1 : (20 : Int) < (fx.size : Int) := by omega
          go_wp2
          go_ret
          exact ⟨false, rfl, by simp, HBX.out⟩
        · have t1 : decide ((20 : Int) < (fx.size : Int)) = false := decide_eq_false (by omega)
          by_cases s2 : 60 < ft.size
          · have t2 : (60 : Int) < (ft.size : Int) := by omega
            go_wp2
            go_ret
            exact ⟨false, rfl, by simp, HBX.out⟩
          · have t2 : decide ((60 : Int) < (ft.size : Int)) = false := decide_eq_false (by omega)
            go_wp2
            go_round
            case rel => exact ⟨k + 1, by rw [L1.out]; omega, by go_num, lr_next HN.out HF.out (by show fx.size ≤ 20; omega) (by show ft.size ≤ 60; omega)⟩
            case measure => simp [intOf]; omega
      · obtain rfl : k = n1 := by omega
        have hall := lr_all (l := l1) (by rw [L1.out]; exact HN.out)
        have HA := Lib.hid hall
        clear hall
        go_wp2
        go_loop [4] (fun i => LrRel l2 i) (fun i => n2 - (intOf i).toNat)
        case atStart => exact ⟨0, Nat.zero_le _, rfl, fun j g h => by omega⟩
        case round =>
          obtain ⟨k2, hk2, rfl, hno2⟩ := hrel
          have hkn2 : k2 ≤ n2 := by rw [← L2.out]; exact hk2
          clear hk2
          have HN2 := Lib.hid hno2
          clear hno2
          by_cases hlt2 : k2 < n2
          · obtain ⟨f, hf⟩ : ∃ f, l2[k2]? = some f := ⟨_, List.getElem?_eq_getElem (by rw [L2.out]; exact hlt2)⟩
            obtain ⟨b', off, rfl, _, hc1, hc2⟩ := H2.out.at_ hf
            have hkz : (k2 : Int) < (n2 : Int) := by omega
            have HF := Lib.hid hf
            clear hf
            obtain ⟨fx, ft⟩ := f
            dsimp only at hc1 hc2
            by_cases s1 : 20 < fx.size
            · have t1 : (20 : Int) < (fx.size : Int) := by omega
              go_wp2
              go_ret
              exact ⟨false, rfl, by simp, HBX.out⟩
            · have t1 : decide ((20 : Int) < (fx.size : Int)) = false := decide_eq_false (by omega)
              by_cases s2 : 60 < ft.size
              · have t2 : (60 : Int) < (ft.size : Int) := by omega
                go_wp2
                go_ret
                exact ⟨false, rfl, by simp, HBX.out⟩
              · have t2 : decide ((60 : Int) < (ft.size : Int)) = false := decide_eq_false (by omega)
                go_wp2
                go_round
                case rel => exact ⟨k2 + 1, by rw [L2.out]; omega, by go_num, lr_next HN2.out HF.out (by show fx.size ≤ 20; omega) (by show ft.size ≤ 60; omega)⟩
                case measure => simp [intOf]; omega
          · obtain rfl : k2 = n2 := by omega
            have hall2 := lr_all (l := l2) (by rw [L2.out]; exact HN2.out)
            have HA2 := Lib.hid hall2
            clear hall2
            go_wp2
            go_ret
            exact ⟨true, rfl, fun _ => ⟨HB.out (by trivial), by rw [L1.out]; omega, by rw [L2.out]; omega, HA.out, HA2.out⟩, HBX.out⟩
end Go.Proofs.Ytlkpbpecgdphaaa
