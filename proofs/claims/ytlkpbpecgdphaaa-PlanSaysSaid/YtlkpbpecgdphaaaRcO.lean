/-
  WALK: record.Of: what it gives.
-/
import Derived.Test.YtlkpbpecgdphaaaRcL
import Derived.Test.YtlkpbpecgdphaaaGf
import Derived.Test.YtlkpbpecgdphaaaRd
import Derived.Test.YtlkpbpecgdphaaaFields
import Derived.Deep.LoopGhost
namespace Go.Proofs.Ytlkpbpecgdphaaa
open Go.RowKit

set_option maxHeartbeats 2000000 in
set_option maxRecDepth 100000 in
theorem equalT_gen (A A' : Option Addr) (n n' c c' B B' : Nat) (l l' : List ByteArray) (w : World) (h : RdS w B A n c l) (h' : RdS w B' A' n' c' l') (b0 : Bool) (hb0 : b0 = true ↔ l = l') :
    Calls Try.prog 64 #[.slice A n c, .slice A' n' c'] w (SmP w b0) := by
  have hm := h.2.2.1
  have hnc := h.2.1
  have hm' := h'.2.2.1
  have hnc' := h'.2.1
  unfold maxLen at hm hm'
  have HR := Lib.hid h
  have HR' := Lib.hid h'
  have HB0 := Lib.hid hb0
  clear h h' hb0
  by_cases hn : n = n'
  · subst hn
    go_enter Try.func64, Try.ntmps64
    go_wp2
    go_loopw [13] (fun i wr => SrRel w n l l' i wr) (fun i _ => n - (intOf i).toNat)
    case atStart => exact ⟨0, Nat.zero_le _, rfl, fun j hj => absurd hj (Nat.not_lt_zero j), 0, rfl⟩
    case round =>
      obtain ⟨k, hk, rfl, hpre, q, rfl⟩ := hrel
      have HPRE := Lib.hid hpre
      clear hpre
      by_cases hlt : k < n
      · obtain ⟨f, hf⟩ : ∃ f, l[k]? = some f := ⟨_, List.getElem?_eq_getElem (by rw [HR.out.1]; exact hlt)⟩
        obtain ⟨f', hf'⟩ : ∃ f, l'[k]? = some f := ⟨_, List.getElem?_eq_getElem (by rw [HR'.out.1]; exact hlt)⟩
        obtain ⟨b, off, rfl, hbb, hc1⟩ := HR.out.at_ hf
        obtain ⟨b', off', rfl, hbb', hc1'⟩ := HR'.out.at_ hf'
        have HF := Lib.hid hf
        have HF' := Lib.hid hf'
        clear hf hf'
        have hiz : (k : Int) < (n : Int) := by omega
        by_cases hx : f.toList = f'.toList
        · have hxb : (f.toList == f'.toList) = true := by rw [hx]; simp
          go_wp2
          go_quiet (fail)
          go_wp2
          go_roundw
          case rel => exact ⟨k + 1, by omega, by go_num, fun j hj => by
            rcases Nat.lt_or_ge j k with h1 | h1
            · exact HPRE.out j h1
            · obtain rfl : j = k := by omega
              rw [HF.out, HF'.out, toList_inj hx], by first | exact ⟨_, rfl⟩ | exact ⟨_, World.drewN_drewN _ _ _⟩⟩
          case measure => simp [intOf]; omega
        · have hxb : (f.toList == f'.toList) = false := by rw [beq_eq_false_iff_ne]; exact hx
          obtain rfl : b0 = false := by
            cases b0 with
            | false => rfl
            | true =>
              have h1 := HF.out
              rw [HB0.out.1 rfl, HF'.out] at h1
              injection h1 with h1
              exact absurd (by rw [h1]) hx
          go_wp2
          go_quiet (fail)
          go_wp2
          go_ret
          exact ⟨rfl, by first | exact ⟨_, rfl⟩ | exact ⟨_, World.drewN_drewN _ _ _⟩⟩
      · obtain rfl : k = n := by omega
        have hall : l = l' := all_same HR.out.1 HR'.out.1 HPRE.out
        have HT := Lib.hid (HB0.out.2 hall)
        clear hall
        go_wp2
        go_ret
        exact ⟨by rw [HT.out]; rfl, _, rfl⟩
  · obtain rfl : b0 = false := by
      cases b0 with
      | false => rfl
      | true => exact absurd (by rw [← HR.out.1, ← HR'.out.1, HB0.out.1 rfl]) hn
    have hnz : ((n : Int) == (n' : Int)) = false := by rw [beq_eq_false_iff_ne]; omega
    have hnn : ((n : Int) != (n' : Int)) = true := by simp [bne, hnz]
    go_enter Try.func64, Try.ntmps64
    go_wp2
    go_ret
    exact ⟨rfl, 0, rfl⟩

set_option maxHeartbeats 2000000 in
set_option maxRecDepth 100000 in
theorem equalF_gen (A A' : Option Addr) (n n' c c' B B' : Nat) (l l' : List F) (w : World) (h : RdF w B A n c l) (h' : RdF w B' A' n' c' l') (b0 : Bool) (hb0 : b0 = true ↔ l = l') :
    Calls Try.prog 65 #[.slice A n c, .slice A' n' c'] w (SmP w b0) := by
  have hm := h.2.2.1
  have hnc := h.2.1
  have hm' := h'.2.2.1
  have hnc' := h'.2.1
  unfold maxLen at hm hm'
  have HR := Lib.hid h
  have HR' := Lib.hid h'
  have HB0 := Lib.hid hb0
  clear h h' hb0
  by_cases hn : n = n'
  · subst hn
    go_enter Try.func65, Try.ntmps65
    go_wp2
    go_loopw [13] (fun i wr => SrRel w n l l' i wr) (fun i _ => n - (intOf i).toNat)
    case atStart => exact ⟨0, Nat.zero_le _, rfl, fun j hj => absurd hj (Nat.not_lt_zero j), 0, rfl⟩
    case round =>
      obtain ⟨k, hk, rfl, hpre, q, rfl⟩ := hrel
      have HPRE := Lib.hid hpre
      clear hpre
      by_cases hlt : k < n
      · obtain ⟨f, hf⟩ : ∃ f, l[k]? = some f := ⟨_, List.getElem?_eq_getElem (by rw [HR.out.1]; exact hlt)⟩
        obtain ⟨f', hf'⟩ : ∃ f, l'[k]? = some f := ⟨_, List.getElem?_eq_getElem (by rw [HR'.out.1]; exact hlt)⟩
        obtain ⟨b, off, rfl, hbb, hc1, hc2⟩ := HR.out.at_ hf
        obtain ⟨b', off', rfl, hbb', hc1', hc2'⟩ := HR'.out.at_ hf'
        have HF := Lib.hid hf
        have HF' := Lib.hid hf'
        clear hf hf'
        obtain ⟨x, t⟩ := f
        obtain ⟨x', t'⟩ := f'
        have hiz : (k : Int) < (n : Int) := by omega
        by_cases hx : x.toList = x'.toList
        · have hxb : (x.toList == x'.toList) = true := by rw [hx]; simp
          by_cases ht : t.toList = t'.toList
          · have htb : (t.toList == t'.toList) = true := by rw [ht]; simp
            go_wp2
            go_quiet (fail)
            go_wp2
            go_roundw
            case rel => exact ⟨k + 1, by omega, by go_num, fun j hj => by
              rcases Nat.lt_or_ge j k with h1 | h1
              · exact HPRE.out j h1
              · obtain rfl : j = k := by omega
                rw [HF.out, HF'.out, toList_inj hx, toList_inj ht], by first | exact ⟨_, rfl⟩ | exact ⟨_, World.drewN_drewN _ _ _⟩⟩
            case measure => simp [intOf]; omega
          · have htb : (t.toList == t'.toList) = false := by rw [beq_eq_false_iff_ne]; exact ht
            obtain rfl : b0 = false := by
              cases b0 with
              | false => rfl
              | true =>
                have h1 := HF.out
                rw [HB0.out.1 rfl, HF'.out] at h1
                injection h1 with h1
                injection h1 with _ h1; exact absurd (by rw [h1]) ht
            go_wp2
            go_quiet (fail)
            go_wp2
            go_ret
            exact ⟨rfl, by first | exact ⟨_, rfl⟩ | exact ⟨_, World.drewN_drewN _ _ _⟩⟩
        · have hxb : (x.toList == x'.toList) = false := by rw [beq_eq_false_iff_ne]; exact hx
          obtain rfl : b0 = false := by
            cases b0 with
            | false => rfl
            | true =>
              have h1 := HF.out
              rw [HB0.out.1 rfl, HF'.out] at h1
              injection h1 with h1
              injection h1 with h1 _; exact absurd (by rw [h1]) hx
          go_wp2
          go_quiet (fail)
          go_wp2
          go_ret
          exact ⟨rfl, by first | exact ⟨_, rfl⟩ | exact ⟨_, World.drewN_drewN _ _ _⟩⟩
      · obtain rfl : k = n := by omega
        have hall : l = l' := all_same HR.out.1 HR'.out.1 HPRE.out
        have HT := Lib.hid (HB0.out.2 hall)
        clear hall
        go_wp2
        go_ret
        exact ⟨by rw [HT.out]; rfl, _, rfl⟩
  · obtain rfl : b0 = false := by
      cases b0 with
      | false => rfl
      | true => exact absurd (by rw [← HR.out.1, ← HR'.out.1, HB0.out.1 rfl]) hn
    have hnz : ((n : Int) == (n' : Int)) = false := by rw [beq_eq_false_iff_ne]; omega
    have hnn : ((n : Int) != (n' : Int)) = true := by simp [bne, hnz]
    go_enter Try.func65, Try.ntmps65
    go_wp2
    go_ret
    exact ⟨rfl, 0, rfl⟩

set_option maxHeartbeats 4000000 in
set_option maxRecDepth 100000 in
theorem recSame_any (A0 A1 A2 A0' A1' A2' : Option Addr) (n0 n1 n2 c0 c1 c2 n0' n1' n2' c0' c1' c2' : Nat) (l0 m0 : List ByteArray) (l1 l2 m1 m2 : List F) (w : World)
    (h0 : RdS w w.heap.size A0 n0 c0 l0) (h1 : RdF w w.heap.size A1 n1 c1 l1) (h2 : RdF w w.heap.size A2 n2 c2 l2) (k0 : RdS w w.heap.size A0' n0' c0' m0) (k1 : RdF w w.heap.size A1' n1' c1' m1) (k2 : RdF w w.heap.size A2' n2' c2' m2) :
    Calls Try.prog 45 #[.agg #[.slice A0 n0 c0, .slice A1 n1 c1, .slice A2 n2 c2], .agg #[.slice A0' n0' c0', .slice A1' n1' c1', .slice A2' n2' c2']] w fun e w' => e = .returned (.bool (decide (l0 = m0) && decide (l1 = m1) && decide (l2 = m2))) ∧ Below w.heap.size w w' := by
  have hbx : Below w.heap.size w ((w.alloc (.cells #[.slice A0 n0 c0, .slice A1 n1 c1, .slice A2 n2 c2] 29)).alloc (.cells #[.slice A0' n0' c0', .slice A1' n1' c1', .slice A2' n2' c2'] 29)) := ((Below.refl _ w).alloc (Nat.le_refl _) _).alloc (by simp) _
  have p0 := (Blk.new w 29 #[.slice A0 n0 c0, .slice A1 n1 c1, .slice A2 n2 c2]).alloc (.cells #[.slice A0' n0' c0', .slice A1' n1' c1', .slice A2' n2' c2'] 29)
  have p1 := Blk.new (w.alloc (.cells #[.slice A0 n0 c0, .slice A1 n1 c1, .slice A2 n2 c2] 29)) 29 #[.slice A0' n0' c0', .slice A1' n1' c1', .slice A2' n2' c2']
  rw [show (w.alloc (.cells #[.slice A0 n0 c0, .slice A1 n1 c1, .slice A2 n2 c2] 29)).heap.size = w.heap.size + 1 by simp] at p1
  have HBX := Lib.hid hbx
  have P0 := Lib.hid p0
  have P1 := Lib.hid p1
  have H0 := Lib.hid (h0.below hbx)
  have H1 := Lib.hid (h1.below hbx)
  have H2 := Lib.hid (h2.below hbx)
  have K0 := Lib.hid (k0.below hbx)
  have K1 := Lib.hid (k1.below hbx)
  have K2 := Lib.hid (k2.below hbx)
  obtain ⟨x, hx⟩ : ∃ x, x = decide (l0 = m0) := ⟨_, rfl⟩
  obtain ⟨y, hy⟩ : ∃ y, y = decide (l1 = m1) := ⟨_, rfl⟩
  obtain ⟨z, hz⟩ : ∃ z, z = decide (l2 = m2) := ⟨_, rfl⟩
  rw [← hx, ← hy, ← hz]
  have X := Lib.hid (show x = true ↔ l0 = m0 by rw [hx]; exact decide_eq_true_iff)
  have Y := Lib.hid (show y = true ↔ l1 = m1 by rw [hy]; exact decide_eq_true_iff)
  have Z := Lib.hid (show z = true ↔ l2 = m2 by rw [hz]; exact decide_eq_true_iff)
  have a0 := p0.cell 0
  have a1 := p0.cell 1
  have a2 := p0.cell 2
  have b0 := p1.cell 0
  have b1 := p1.cell 1
  have b2 := p1.cell 2
  clear hbx p0 p1 h0 h1 h2 k0 k1 k2 hx hy hz
  go_enter Try.func45, Try.ntmps45
  go_wp2_with fail
  generalize (w.alloc (.cells #[.slice A0 n0 c0, .slice A1 n1 c1, .slice A2 n2 c2] 29)).alloc (.cells #[.slice A0' n0' c0', .slice A1' n1' c1', .slice A2' n2' c2'] 29) = W at *
  have e0 : W.cell? ⟨w.heap.size, 0, none⟩ = some (.slice A0 n0 c0) := P0.out.cell 0
  have e1 : W.cell? ⟨w.heap.size, 1, none⟩ = some (.slice A1 n1 c1) := P0.out.cell 1
  have e2 : W.cell? ⟨w.heap.size, 2, none⟩ = some (.slice A2 n2 c2) := P0.out.cell 2
  have f0 : W.cell? ⟨w.heap.size + 1, 0, none⟩ = some (.slice A0' n0' c0') := P1.out.cell 0
  have f1 : W.cell? ⟨w.heap.size + 1, 1, none⟩ = some (.slice A1' n1' c1') := P1.out.cell 1
  have f2 : W.cell? ⟨w.heap.size + 1, 2, none⟩ = some (.slice A2' n2' c2') := P1.out.cell 2
  clear a0 a1 a2 b0 b1 b2
  have hend : ∀ k, Below w.heap.size w (W.drewN k) := fun k => HBX.out.trans ((below_drews' W k).mono HBX.out.size)
  have HEND := Lib.hid hend
  clear hend
  refine (equalT_gen A0 A0' n0 n0' c0 c0' _ _ l0 m0 W H0.out K0.out x X.out).mono ?_
  rintro e w1 ⟨rfl, k, rfl⟩
  cases x with
  | false =>
    go_wp2
    go_ret
    exact ⟨rfl, HEND.out _⟩
  | true =>
    go_wp2_with fail
    refine (equalF_gen A1 A1' n1 n1' c1 c1' _ _ l1 m1 (W.drewN k) (H1.out.drewN k) (K1.out.drewN k) y Y.out).mono ?_
    rintro e w1 ⟨rfl, k2, rfl⟩
    cases y with
    | false =>
      go_wp2
      go_ret
      exact ⟨rfl, HEND.out _⟩
    | true =>
      go_wp2_with fail
      refine (equalF_gen A2 A2' n2 n2' c2 c2' _ _ l2 m2 (W.drewN (k + k2)) (H2.out.drewN _) (K2.out.drewN _) z Z.out).mono ?_
      rintro e w1 ⟨rfl, k3, rfl⟩
      cases z
      all_goals
        go_wp2
        go_ret
        exact ⟨rfl, HEND.out _⟩
end Go.Proofs.Ytlkpbpecgdphaaa
namespace Go.Proofs.Ytlkpbpecgdphaaa
open Go.RowKit Go.Sort

/-- Those of the needs that are there, with their texts. -/
def ndR (l : List F) (needs : List ByteArray) : List F := needs.flatMap fun n => if has l n = true then [(n, textF l n)] else []
theorem ndR_take {l : List F} {needs : List ByteArray} {k : Nat} {n : ByteArray} (h : needs[k]? = some n) : ndR l (needs.take (k + 1)) = ndR l (needs.take k) ++ if has l n = true then [(n, textF l n)] else [] := by
  unfold ndR
  rw [List.take_add_one, h]
  simp
theorem ndR_len (l : List F) (needs : List ByteArray) : (ndR l needs).length ≤ needs.length := by
  unfold ndR
  induction needs with
  | nil => simp
  | cons n r ih =>
    rw [List.flatMap_cons, List.length_append, List.length_cons]
    split
    · show 1 + _ ≤ _; omega
    · show 0 + _ ≤ _; omega
def OfRel (w5 : World) (pr : Nat) (S0 S2 : Value) (l : List F) (needs : List ByteArray) (n : Nat) (i : Value) (wr : World) : Prop :=
  ∃ (k : Nat) (V : Value), k ≤ n ∧ i = .int .i64 k ∧ wr.ownsRow w5.heap.size tFi 2 V (ndR l (needs.take k)).length (fcells (ndR l (needs.take k))) ∧ Blk wr pr tRec #[S0, V, S2] ∧ Upd w5 wr (One pr)
/-- A record by value. -/
def RcV (w : World) (v : Value) (r : Rcd) : Prop := ∃ A0 n0 c0 A1 n1 c1 A2 n2 c2, v = .agg #[.slice A0 n0 c0, .slice A1 n1 c1, .slice A2 n2 c2] ∧ RdS w w.heap.size A0 n0 c0 r.1 ∧ RdF w w.heap.size A1 n1 c1 r.2.1 ∧ RdF w w.heap.size A2 n2 c2 r.2.2
def OfP (r : Rcd) (w : World) (e : Ending) (w' : World) : Prop := ∃ v, e = .returned v ∧ RcV w' v r ∧ Below w.heap.size w w'
theorem RcV.of_own {w : World} {b0 b1 b2 n0 n1 n2 : Nat} {V0 V1 V2 : Value} {l0 : List ByteArray} {l1 l2 : List F} (h0 : w.ownsRow b0 tStr 1 V0 n0 (tcells l0)) (h1 : w.ownsRow b1 tFi 2 V1 n1 (fcells l1)) (h2 : w.ownsRow b2 tFi 2 V2 n2 (fcells l2)) : RcV w (.agg #[V0, V1, V2]) (l0, l1, l2) := by
  obtain ⟨A0, c0, rfl, r0⟩ := RdS.of_own h0
  obtain ⟨A1, c1, rfl, r1⟩ := RdF.of_own h1
  obtain ⟨A2, c2, rfl, r2⟩ := RdF.of_own h2
  exact ⟨_, _, _, _, _, _, _, _, _, rfl, r0, r1, r2⟩

set_option maxRecDepth 100000 in
set_option maxHeartbeats 16000000 in
theorem recOf_any (A0 A1 A2 AL AO : Option Addr) (n0 n1 n2 c0 c1 c2 nL cL nO cO : Nat) (ph : Bool) (_tg nd cm : List ByteArray) (l out : List F) (w : World)
    (hn : RdS w w.heap.size A1 n1 c1 nd) (hc : RdS w w.heap.size A2 n2 c2 cm) (hl : RdF w w.heap.size AL nL cL l) (ho : RdF w w.heap.size AO nO cO out) (hs : Rises l) (b1 : n1 ≤ 1000) (b2 : n2 ≤ 1000) (bL : nL ≤ 1000) (bO : nO ≤ 1000) :
    Calls Try.prog 46 #[.agg #[.slice A0 n0 c0, .slice A1 n1 c1, .slice A2 n2 c2, .bool ph], .slice AL nL cL, .slice AO nO cO] w (OfP (cm, ndR l nd, out) w) := by
  obtain ⟨i, hi, hz, hsz, hby⟩ := file_parts
  have HI := Lib.hid hi
  have HZ := Lib.hid hz
  have HSZ := Lib.hid hsz
  have HBY := Lib.hid hby
  have hbx : Below w.heap.size w ((w.alloc (.cells #[.slice A0 n0 c0, .slice A1 n1 c1, .slice A2 n2 c2, .bool ph] tGr)).alloc (.cells #[.slice none 0 0, .slice none 0 0, .slice none 0 0] tRec)) := ((Below.refl _ w).alloc (Nat.le_refl _) _).alloc (by simp) _
  have pg := (Blk.new w tGr #[.slice A0 n0 c0, .slice A1 n1 c1, .slice A2 n2 c2, .bool ph]).alloc (.cells #[.slice none 0 0, .slice none 0 0, .slice none 0 0] tRec)
  have p0 := Blk.new (w.alloc (.cells #[.slice A0 n0 c0, .slice A1 n1 c1, .slice A2 n2 c2, .bool ph] tGr)) tRec #[.slice none 0 0, .slice none 0 0, .slice none 0 0]
  rw [show (w.alloc (.cells #[.slice A0 n0 c0, .slice A1 n1 c1, .slice A2 n2 c2, .bool ph] tGr)).heap.size = w.heap.size + 1 by simp] at p0
  have HBX := Lib.hid hbx
  have PG := Lib.hid pg
  have P0 := Lib.hid p0
  have HN := Lib.hid (RdS.belowS hn hbx)
  have HC := Lib.hid (RdS.belowS hc hbx)
  have HO := Lib.hid (RdF.belowS ho hbx)
  have HNw := Lib.hid hn
  have HLw := Lib.hid hl
  have LN := Lib.hid hn.1
  have HS := Lib.hid hs
  have g2 := pg.cell 2
  clear hi hz hsz hby hbx pg p0 hn hc hl ho hs
  go_enter Try.func46, Try.ntmps46
  go_wp2_with fail
  generalize (w.alloc (.cells #[.slice A0 n0 c0, .slice A1 n1 c1, .slice A2 n2 c2, .bool ph] tGr)).alloc (.cells #[.slice none 0 0, .slice none 0 0, .slice none 0 0] tRec) = w1 at *
  clear g2
  refine (cloneS_any A2 n2 c2 cm w1 HC.out (by omega)).mono ?_
  rintro e w2 ⟨V0, rfl, ho0, hb2⟩
  have HO0 := Lib.hid ho0
  have HB2 := Lib.hid hb2
  have HO2 := Lib.hid (RdF.belowS HO.out hb2)
  clear ho0 hb2 HC
  go_wp2_with fail
  refine (cloneF_any AO nO cO out w2 HO2.out (by omega)).mono ?_
  rintro e w3 ⟨V2, rfl, ho2, hb3⟩
  have HV2 := Lib.hid ho2
  have HB3 := Lib.hid hb3
  clear ho2 hb3 HO2 HO
  obtain ⟨AA0, cc0, rfl⟩ := own_shape HO0.out
  obtain ⟨AA2, cc2, rfl⟩ := own_shape HV2.out
  have hv0 := ownsRow_kept (w' := w3) HO0.out (fun g hg => HB3.out.block g (HO0.out.lt g hg).2)
  have hpg3 : Blk w3 w.heap.size tGr #[.slice A0 n0 c0, .slice A1 n1 c1, .slice A2 n2 c2, .bool ph] := (HB3.out.block _ (Nat.lt_of_lt_of_le PG.out.lt HB2.out.size)).trans ((HB2.out.block _ PG.out.lt).trans PG.out)
  have hp03 : Blk w3 (w.heap.size + 1) tRec #[.slice none 0 0, .slice none 0 0, .slice none 0 0] := (HB3.out.block _ (Nat.lt_of_lt_of_le P0.out.lt HB2.out.size)).trans ((HB2.out.block _ P0.out.lt).trans P0.out)
  have hbl3 : Below w.heap.size w w3 := (HBX.out.trans (HB2.out.mono HBX.out.size)).trans (HB3.out.mono (Nat.le_trans HBX.out.size HB2.out.size))
  have hpr := Blk.new w3 tRec #[.slice AA0 n2 cc0, .slice none 0 0, .slice AA2 nO cc2]
  have hb4 : Below w3.heap.size w3 (w3.alloc (.cells #[.slice AA0 n2 cc0, .slice none 0 0, .slice AA2 nO cc2] tRec)) := (Below.refl _ _).alloc (Nat.le_refl _) _
  have hlt0 := hpg3.lt
  have hlt1 := hp03.lt
  obtain ⟨pr, hprr⟩ : ∃ pr, pr = w3.heap.size := ⟨_, rfl⟩
  have HV0 := Lib.hid (hv0.alloc (.cells #[.slice AA0 n2 cc0, .slice none 0 0, .slice AA2 nO cc2] tRec))
  have HW2 := Lib.hid (HV2.out.alloc (.cells #[.slice AA0 n2 cc0, .slice none 0 0, .slice AA2 nO cc2] tRec))
  have PG5 := Lib.hid (hpg3.alloc (.cells #[.slice AA0 n2 cc0, .slice none 0 0, .slice AA2 nO cc2] tRec))
  have P05 := Lib.hid (hp03.alloc (.cells #[.slice AA0 n2 cc0, .slice none 0 0, .slice AA2 nO cc2] tRec))
  have HB5 := Lib.hid (hbl3.trans (hb4.mono hbl3.size))
  have hrow0 : ∀ g, (Value.slice AA0 n2 cc0).ownBlock = some g → g < w3.heap.size := fun g hg => (hv0.lt g hg).2
  have hrow2 : ∀ g, (Value.slice AA2 nO cc2).ownBlock = some g → g < w3.heap.size := fun g hg => (HV2.out.lt g hg).2
  rw [← hprr] at hpr hlt0 hlt1 hrow0 hrow2
  have R0 := Lib.hid hrow0
  have R2 := Lib.hid hrow2
  have PR := Lib.hid hpr
  have hsz5 : (w3.alloc (.cells #[.slice AA0 n2 cc0, .slice none 0 0, .slice AA2 nO cc2] tRec)).heap.size = pr + 1 := by simp [hprr]
  have HPRR := Lib.hid hprr
  have gg : (w3.alloc (.cells #[.slice AA0 n2 cc0, .slice none 0 0, .slice AA2 nO cc2] tRec)).cell? ⟨w.heap.size, 1, none⟩ = some (.slice A1 n1 c1) := PG5.out.cell 1
  have SZ5 := Lib.hid hsz5
  clear hv0 hpg3 hp03 hbl3 hpr hb4 hrow0 hrow2 HO0 HB2 HB3 HV2 HBX PG P0 hprr hsz5
  go_wp2
  rw [← HPRR.out]
  generalize w3.alloc (.cells #[.slice AA0 n2 cc0, .slice none 0 0, .slice AA2 nO cc2] tRec) = w5 at *
  clear gg HPRR
  have hs5 := SZ5.out
  have HUP := Lib.hid (fun (wr : World) (hu : Upd w5 wr (One pr)) => hu.below (B := w.heap.size) HB5.out.size (fun k hk => by rw [show k = pr from hk]; omega))
  clear hs5
  go_loopw [21] (fun v wr => OfRel w5 pr (.slice AA0 n2 cc0) (.slice AA2 nO cc2) l nd n1 v wr) (fun v _ => n1 - (intOf v).toNat)
  case atStart => exact ⟨0, .slice none 0 0, Nat.zero_le _, rfl, World.ownsRow_nil _ _ _ _, PR.out, Upd.refl _ _⟩
  case round =>
    obtain ⟨k, V, hk, rfl, hown, hpr, hu⟩ := hrel
    have HOW := Lib.hid hown
    have PRR := Lib.hid hpr
    have HU := Lib.hid hu
    have hblw := HB5.out.trans (HUP.out wr hu)
    have HBW := Lib.hid hblw
    clear hown hpr hu hblw
    by_cases hlt : k < n1
    · obtain ⟨nm, hf⟩ : ∃ f, nd[k]? = some f := ⟨_, List.getElem?_eq_getElem (by rw [LN.out]; exact hlt)⟩
      obtain ⟨b', off, rfl, _, hc1⟩ := (HNw.out.below HBW.out).at_ hf
      have hkz : (k : Int) < (n1 : Int) := by omega
      have HTK := Lib.hid (ndR_take (l := l) hf)
      have HLR := Lib.hid (show RdF wr wr.heap.size AL nL cL l from RdF.belowS HLw.out HBW.out)
      have hlen : (ndR l (nd.take k)).length ≤ 1000 := by have := ndR_len l (nd.take k); have h2 : (nd.take k).length ≤ k := List.length_take_le _ _; omega
      clear hf
      go_wp2_with fail
      refine (get_any AL nL cL l nm wr HLR.out HS.out (by omega)).mono ?_
      rintro e w6 ⟨rfl, hb6⟩
      have hu6 := HU.out.two (Upd.of_below hb6 (One pr))
      have HU6 := Lib.hid hu6
      have hpr6 : Blk w6 pr tRec #[.slice AA0 n2 cc0, V, .slice AA2 nO cc2] := (hb6.block _ PRR.out.lt).trans PRR.out
      have ho6 := ownsRow_kept (w' := w6) HOW.out (fun g hg => hb6.block g (HOW.out.lt g hg).2)
      have HO6 := Lib.hid ho6
      have PR6 := Lib.hid hpr6
      obtain ⟨AV, cV, rfl⟩ := own_shape ho6
      clear hb6 hu6 hpr6 ho6 HOW PRR HU hc1 HLR
      cases hh : has l nm with
      | false =>
        have htk := HTK.out
        rw [hh, if_neg (by simp), List.append_nil] at htk
        have HTK2 := Lib.hid htk
        clear htk hh HTK
        go_wp2
        go_roundw
        case rel => exact ⟨k + 1, _, by omega, by go_num, by rw [HTK2.out]; exact HO6.out, PR6.out, HU6.out⟩
        case measure => simp [intOf]; omega
      | true =>
        have htk := HTK.out
        rw [hh, if_pos rfl] at htk
        have HTK2 := Lib.hid htk
        clear htk hh HTK
        generalize ht : textF l nm = tx at *
        clear ht
        have c1' := PR6.out.cell 1
        have H1 := Lib.hid (RdF_1 w6 nm tx tFi)
        have hw5 : w5.heap.size ≤ w6.heap.size := HU6.out.size
        have hsz1 : w5.heap.size ≤ (w6.alloc (.cells #[.string nm, .string tx] tFi)).heap.size := by simp; omega
        have HO1 := Lib.hid (HO6.out.alloc (.cells #[.string nm, .string tx] tFi))
        have PR7 := Lib.hid (PR6.out.alloc (.cells #[.string nm, .string tx] tFi))
        have HU7 := Lib.hid (HU6.out.two (Upd.of_below (show Below w6.heap.size w6 (w6.alloc (.cells #[.string nm, .string tx] tFi)) from (Below.refl _ _).alloc (Nat.le_refl _) _) (One pr)))
        clear hw5
        go_wp2_with (at_builtin; refine wpList_append_files _ rfl (.tmp 33) (.tmp 37) _ rfl w5.heap.size tFi i _ 32 Try.underlying22 HI.out HZ.out HSZ.out HBY.out rfl _ _ _ rfl HO1.out _ _ 1 1 [(nm, tx)] rfl H1.out ?_ ?_ ?_ ?_)
        · unfold maxLen; omega
        · omega
        · exact hsz1
        intro v2 w9 hown2 hg2
        obtain ⟨A9, c9, rfl⟩ := own_shape hown2
        have hrn := row_block_ne HO1.out PR7.out (by decide)
        have hpr9 := PR7.out.grown hg2 hrn
        have d1 : w9.cell? ⟨pr, 1, none⟩ = some (.slice AV (ndR l (nd.take k)).length cV) := hpr9.cell 1
        have e1 := hpr9.free 1
        have PR9 := Lib.hid (hpr9.set 1 (.slice A9 ((ndR l (nd.take k)).length + 1) c9))
        have HO9 := Lib.hid (own_set (i := 1) (u := .slice A9 ((ndR l (nd.take k)).length + 1) c9) hown2 (row_block_ne hown2 hpr9 (by decide)))
        have HU9 := Lib.hid ((show Upd w5 w9 (One pr) from ⟨hg2.os.trans HU7.out.os, hg2.tape.trans HU7.out.tape, hg2.output.trans HU7.out.output, Nat.le_trans HU7.out.size hg2.size, fun j hj hn => (hg2.block j (Nat.lt_of_lt_of_le hj HU7.out.size) (fun e => by have := (HO1.out.lt j e.symm).1; omega)).trans (HU7.out.block j hj hn)⟩).setOne 1 (.slice A9 ((ndR l (nd.take k)).length + 1) c9))
        clear hown2 hg2 hrn hpr9 c1' H1 HO1 PR7 HU7 HO6 PR6 HU6 hsz1
        go_wp2
        go_roundw
        case rel =>
          refine ⟨k + 1, .slice A9 ((ndR l (nd.take k)).length + 1) c9, by omega, by go_num, ?_, PR9.out, HU9.out⟩
          have := HO9.out
          rw [HTK2.out, List.length_append]
          exact this
        case measure => simp [intOf]; omega
    · obtain rfl : k = n1 := by omega
      have hown : wr.ownsRow w5.heap.size tFi 2 V (ndR l nd).length (fcells (ndR l nd)) := by
        have := HOW.out
        rwa [List.take_of_length_le (by rw [LN.out]; exact Nat.le_refl _)] at this
      obtain ⟨AV, cV, rfl⟩ := own_shape hown
      have hp0 : Blk wr (w.heap.size + 1) tRec #[.slice none 0 0, .slice none 0 0, .slice none 0 0] := P05.out.upd HU.out (by show ¬ (w.heap.size + 1 = pr); omega)
      have a0 := PRR.out.cell 0
      have a1 := PRR.out.cell 1
      have a2 := PRR.out.cell 2
      have y0 : wr.cell? ⟨w.heap.size + 1, 0, none⟩ = some (.slice none 0 0) := hp0.cell 0
      have y1 : wr.cell? ⟨w.heap.size + 1, 1, none⟩ = some (.slice none 0 0) := hp0.cell 1
      have y2 : wr.cell? ⟨w.heap.size + 1, 2, none⟩ = some (.slice none 0 0) := hp0.cell 2
      have z0 := hp0.free 0
      have z1 := hp0.free 1
      have z2 := hp0.free 2
      have HOV := Lib.hid hown
      have HP0 := Lib.hid hp0
      clear hown hp0 HOW
      go_wp2
      refine bodyPost_ret (v := .agg #[.slice AA0 n2 cc0, .slice AV (ndR l nd).length cV, .slice AA2 nO cc2]) ?_ rfl ?_
      · rw [results_cell1 rfl]
        go_simp
      · have hv0p : (Value.slice AA0 n2 cc0).ownBlock ≠ some pr := fun e => by have := R0.out pr e; omega
        have hv2p : (Value.slice AA2 nO cc2).ownBlock ≠ some pr := fun e => by have := R2.out pr e; omega
        have q0 : (Value.slice AA0 n2 cc0).ownBlock ≠ some (w.heap.size + 1) := row_block_ne (own_upd HV0.out HU.out hv0p) HP0.out (by decide)
        have q1 : (Value.slice AV (ndR l nd).length cV).ownBlock ≠ some (w.heap.size + 1) := row_block_ne HOV.out HP0.out (by decide)
        have q2 : (Value.slice AA2 nO cc2).ownBlock ≠ some (w.heap.size + 1) := row_block_ne (own_upd HW2.out HU.out hv2p) HP0.out (by decide)
        exact ⟨_, rfl, RcV.of_own (own_set (own_set (own_set (own_upd HV0.out HU.out hv0p) q0) q0) q0) (own_set (own_set (own_set HOV.out q1) q1) q1) (own_set (own_set (own_set (own_upd HW2.out HU.out hv2p) q2) q2) q2),
          ((HBW.out.setCell (p := ⟨w.heap.size + 1, 0, none⟩) (by show w.heap.size ≤ w.heap.size + 1; omega) _).setCell (p := ⟨w.heap.size + 1, 1, none⟩) (by show w.heap.size ≤ w.heap.size + 1; omega) _).setCell (p := ⟨w.heap.size + 1, 2, none⟩) (by show w.heap.size ≤ w.heap.size + 1; omega) _⟩
end Go.Proofs.Ytlkpbpecgdphaaa
