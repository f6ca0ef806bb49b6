/-
  WALK: hammerpondlaw.RowSays: true for every two lists of changes, every change and every text.
-/
import Derived.Test.YtdkjnclbgkcblaaRs
import Derived.BigQuiet
namespace Go.Proofs.Ytdkjnclbgkcblaa
open Go.RowKit Go.Sort Go.Shelf

theorem RdC.lone (W : World) (a : Ch) (t : TypeId) : RdC (W.alloc (.cells #[.string a.key, .string a.val, .bool a.gone] t)) (W.heap.size + 1) (some ⟨W.heap.size, 0, none⟩) 1 1 [a] := by
  have h := Blk.new W t #[.string a.key, .string a.val, .bool a.gone]
  refine ⟨rfl, Nat.le_refl _, by unfold maxLen; omega, fun _ => ⟨W.heap.size, 0, rfl, by omega, fun i f hi => ?_⟩⟩
  match i, hi with
  | 0, hi => simp at hi; subst hi; exact ⟨h.cell 0, h.cell 1, h.cell 2⟩
  | i + 1, hi => simp at hi
def RsRel (w : World) (c : Ch) (A1 A2 : Option Addr) (n1 c1 n2 c2 : Nat) (l1 l2 : List Ch) (vi : Value) (wr : World) : Prop := ∃ k : Nat, k ≤ n2 ∧ vi = .int .i64 k ∧ RS w c A1 A2 n1 c1 n2 c2 l1 l2 wr
set_option maxHeartbeats 2000000 in
set_option maxRecDepth 100000 in
theorem rowSays_any (A1 A2 : Option Addr) (n1 c1 n2 c2 : Nat) (l1 l2 : List Ch) (c : Ch) (s : ByteArray) (w : World) (h1 : RdC w w.heap.size A1 n1 c1 l1) (h2 : RdC w w.heap.size A2 n2 c2 l2) :
    Calls Try.prog 4 #[.slice A1 n1 c1, .slice A2 n2 c2, c.v, .string s] w fun e w' => e = .returned (.bool true) ∧ Below w.heap.size w w' := by
  have mixed : Try.prog.follows .mixedOrders = true := by kernel_rfl
  have HT0 := Lib.hid (RS.start (c := c) h1 h2 54)
  have HL1 := Lib.hid h1.1
  have HL2 := Lib.hid h2.1
  have hm2 := h2.2.2.1
  have hnc2 := h2.2.1
  unfold maxLen at hm2
  clear h1 h2
  unfold Ch.v
  go_enter Try.func4, Try.ntmps4
  go_wp2_with fail
  generalize w.alloc (.cells #[.string c.key, .string c.val, .bool c.gone] 54) = W0 at *
  refine (rows_any _).mono ?_
  rintro e w1 ⟨rfl, hb1⟩
  have HT1 := Lib.hid (HT0.out.step hb1)
  clear hb1 HT0
  go_wp2_with fail
  refine (lightChanges_any A1 n1 c1 l1 50 w.heap.size w1 HT1.out.r1 (by omega)).mono ?_
  rintro e w1' ⟨r, rfl, hlit, rfl⟩
  cases r with
  | false =>
    go_wp2
    go_ret
    exact ⟨rfl, HT1.out.bel⟩
  | true =>
    have HLA := Lib.hid (hlit rfl)
    clear hlit
    go_wp2_with fail
    refine (lightChanges_any A2 n2 c2 l2 50 w.heap.size w1 HT1.out.r2 (by omega)).mono ?_
    rintro e w1' ⟨r2, rfl, hlit, rfl⟩
    cases r2 with
    | false =>
      go_wp2
      go_ret
      exact ⟨rfl, HT1.out.bel⟩
    | true =>
      have HLB := Lib.hid (hlit rfl)
      obtain ⟨a0, a1, a2, _, _, _, hsz⟩ := HT1.out
      clear hlit
      go_wp2_with fail
      refine (lightChanges_any (some ⟨w1.heap.size, 0, none⟩) 1 1 [c] 1 (w1.heap.size + 1) _ (RdC.lone w1 c 54) (by omega)).mono ?_
      rintro e w2' ⟨r3, rfl, hlit, rfl⟩
      have HT2 := Lib.hid (HT1.out.alloc (.cells #[.string c.key, .string c.val, .bool c.gone] 54))
      clear a0 a1 a2 hsz HT1
      generalize w1.alloc (.cells #[.string c.key, .string c.val, .bool c.gone] 54) = w2 at *
      cases r3 with
      | false =>
        go_wp2
        go_ret
        exact ⟨rfl, HT2.out.bel⟩
      | true =>
        obtain ⟨_, hsml⟩ := hlit rfl
        have hsc := hsml c (by simp)
        clear hlit hsml
        by_cases h500 : 500 < s.size
        · have z5 : (500 : Int) < (s.size : Int) := by omega
          go_wp2
          go_ret
          exact ⟨rfl, HT2.out.bel⟩
        have z5 : decide ((500 : Int) < (s.size : Int)) = false := decide_eq_false (by omega)
        have hby := fun W => rowBytes_any c W (by omega) (by omega)
        have hcb := fun W => changeBytes_any c W (by omega) (by omega)
        have hpa := fun W => parse_any s W (by omega)
        have hof := fun W => changeOf_any s W (by omega)
        have hck := fun W => check_all c W (by omega)
        have hcf := fun W => changeFault_all c W (by omega)
        have hs1 := fun W => same_erV (ckR c) (by rcases ckR_cases c with h | h | h <;> omega) W
        have hs2 := fun W => same_erV (parN s) (parN_cases s) W
        simp only [encV_eq, cbV_eq, parV_eq, ofV_eq, Ch.v] at hby hcb hpa hof hck hcf
        generalize erV (ckR c) = E1 at *
        generalize erV (parN s) = E2 at *
        generalize ckR c = kk at *
        generalize parN s = jj at *
        generalize encS c = S at *
        generalize parCh s = p at *
        have HBY := Lib.hid hby
        have HCB := Lib.hid hcb
        have HPA := Lib.hid hpa
        have HOF := Lib.hid hof
        have HCK := Lib.hid hck
        have HCF := Lib.hid hcf
        have HS1 := Lib.hid hs1
        have HS2 := Lib.hid hs2
        have hsN : n1 ≤ 50 ∧ n2 ≤ 50 := by
          have e1 := HLA.out.1
          have e2 := HLB.out.1
          rw [HL1.out] at e1
          rw [HL2.out] at e2
          exact ⟨e1, e2⟩
        clear hby hcb hpa hof hck hcf hs1 hs2 h500
        obtain ⟨a0, a1, a2, _, _, _, hsz⟩ := HT2.out
        go_wp2_with fail
        refine (HBY.out _).mono ?_
        rintro e w3 ⟨rfl, hb3⟩
        have HT3 := Lib.hid (HT2.out.step hb3)
        clear a0 a1 a2 hsz hb3 HT2 HBY
        obtain ⟨a0, a1, a2, _, _, _, hsz⟩ := HT3.out
        go_wp2_with fail
        refine (HCB.out _).mono ?_
        rintro e w4 ⟨rfl, hb4⟩
        have HT4 := Lib.hid (HT3.out.step hb4)
        clear a0 a1 a2 hsz hb4 HT3 HCB
        go_wp2_with fail
        refine (HPA.out _).mono ?_
        rintro e w5 ⟨rfl, hb5⟩
        have HT5 := Lib.hid (HT4.out.step hb5)
        clear hb5 HT4 HPA
        have HT6 := Lib.hid (HT5.out.alloc (.cells #[.string p.key, .string p.val, .bool p.gone] 54))
        have HX6 := Lib.hid (StC.new w5 p.key p.val p.gone 54)
        go_wp2_with fail
        generalize hw6 : w5.alloc (.cells #[.string p.key, .string p.val, .bool p.gone] 54) = w6 at *
        clear hw6 HT5
        refine (HOF.out _).mono ?_
        rintro e w7 ⟨rfl, hb7⟩
        have HT7 := Lib.hid (HT6.out.step hb7)
        have HX7 := Lib.hid (HX6.out.step hb7)
        clear hb7 HT6 HX6 HOF
        have HT8 := Lib.hid (HT7.out.alloc (.cells #[.string p.key, .string p.val, .bool p.gone] 54))
        have HY8 := Lib.hid (StC.new w7 p.key p.val p.gone 54)
        have HX8 := Lib.hid (HX7.out.step ((Below.refl _ _).alloc (Nat.le_refl _) (.cells #[.string p.key, .string p.val, .bool p.gone] 54)))
        go_wp2_with fail
        generalize hw8 : w7.alloc (.cells #[.string p.key, .string p.val, .bool p.gone] 54) = w8 at *
        clear hw8 HT7 HX7
        have hlt0 : w.heap.size < w8.heap.size := by have := HT8.out.sz; omega
        have a0 := fun n os => cell_grown (a := ⟨w.heap.size, 0, none⟩) hlt0 HT8.out.a0 n os
        have a1 := fun n os => cell_grown (a := ⟨w.heap.size, 1, none⟩) hlt0 HT8.out.a1 n os
        have a2 := fun n os => cell_grown (a := ⟨w.heap.size, 2, none⟩) hlt0 HT8.out.a2 n os
        have x0 := fun n os => cell_grown (a := ⟨w5.heap.size, 0, none⟩) HX8.out.lt HX8.out.c0 n os
        have x1 := fun n os => cell_grown (a := ⟨w5.heap.size, 1, none⟩) HX8.out.lt HX8.out.c1 n os
        have x2 := fun n os => cell_grown (a := ⟨w5.heap.size, 2, none⟩) HX8.out.lt HX8.out.c2 n os
        have y0 := fun n os => cell_grown (a := ⟨w7.heap.size, 0, none⟩) HY8.out.lt HY8.out.c0 n os
        have y1 := fun n os => cell_grown (a := ⟨w7.heap.size, 1, none⟩) HY8.out.lt HY8.out.c1 n os
        have y2 := fun n os => cell_grown (a := ⟨w7.heap.size, 2, none⟩) HY8.out.lt HY8.out.c2 n os
        have gck : ∀ n os, Calls Try.prog 34 #[.agg #[.string c.key, .string c.val, .bool c.gone]] (grow (w8.drewN n) os) fun e w' => e = .returned E1 ∧ ∃ q os', w' = grow ((grow (w8.drewN n) os).drewN q) os' := fun n os =>
          (HCK.out (grow (w8.drewN n) os)).mono fun _ _ ⟨he, o, ho⟩ => ⟨he, 0, #[o], by rw [ho, alloc_eq_grow]; rfl⟩
        have gcf : ∀ n os, Calls Try.prog 35 #[.agg #[.string c.key, .string c.val, .bool c.gone]] (grow (w8.drewN n) os) fun e w' => e = .returned (.int .i64 kk) ∧ ∃ q os', w' = grow ((grow (w8.drewN n) os).drewN q) os' := fun n os =>
          (HCF.out (grow (w8.drewN n) os)).mono fun _ _ ⟨he, o, ho⟩ => ⟨he, 0, #[o], by rw [ho, alloc_eq_grow]; rfl⟩
        have gs1 : ∀ n os, Calls Try.prog 16 #[E1, .int .i64 kk] (grow (w8.drewN n) os) fun e w' => e = .returned (.bool true) ∧ ∃ q os', w' = grow ((grow (w8.drewN n) os).drewN q) os' := fun n os =>
          (HS1.out (grow (w8.drewN n) os)).mono fun _ _ ⟨he, hw⟩ => ⟨he, 0, #[], by rw [← hw, grow_empty]; rfl⟩
        have gs2 : ∀ n os, Calls Try.prog 16 #[E2, .int .i64 jj] (grow (w8.drewN n) os) fun e w' => e = .returned (.bool true) ∧ ∃ q os', w' = grow ((grow (w8.drewN n) os).drewN q) os' := fun n os =>
          (HS2.out (grow (w8.drewN n) os)).mono fun _ _ ⟨he, hw⟩ => ⟨he, 0, #[], by rw [← hw, grow_empty]; rfl⟩
        clear HX8 HY8 HCK HCF HS1 HS2 hlt0
        refine wp_region_quiet_grown (by assumption) (by kernel_rfl) ?_
        repeat (go_big_quiet_step (first
          | (go_at_call 34; (with_reducible refine Calls.grown_of (gck _ _)))
          | (go_at_call 35; (with_reducible refine Calls.grown_of (gcf _ _)))
          | (go_at_call 16; (with_reducible refine Calls.grown_of (gs1 _ _)))
          | (go_at_call 16; (with_reducible refine Calls.grown_of (gs2 _ _)))))
        refine wpQuiet_nil ?_
        intro _ hw'
        obtain ⟨⟨nq, osq⟩, hw''⟩ := hw'
        subst hw''
        have HT9 := Lib.hid (HT8.out.grown nq osq)
        clear a0 a1 a2 x0 x1 x2 y0 y1 y2 gck gcf gs1 gs2 HT8
        generalize grow (w8.drewN nq) osq = w9 at *
        go_wp2
        go_loopw [18] (fun vi wr => RsRel w c A1 A2 n1 c1 n2 c2 l1 l2 vi wr) (fun vi _ => n2 - (intOf vi).toNat)
        case atStart => exact ⟨0, Nat.zero_le _, rfl, HT9.out⟩
        case round =>
          clear HT9
          obtain ⟨k, hk, rfl, ht⟩ := hrel
          have HT := Lib.hid ht
          clear ht
          by_cases hlt : k < n2
          · obtain ⟨f, hf⟩ : ∃ f, l2[k]? = some f := ⟨_, List.getElem?_eq_getElem (by rw [HL2.out]; exact hlt)⟩
            obtain ⟨b', off, rfl, hbb, q0, q1, q2⟩ := HT.out.r2.at_ hf
            have hsf := HLB.out.2 f (List.mem_of_getElem? hf)
            have HCF2 := Lib.hid (fun W => changeFault_any f W (by omega))
            unfold Ch.v at HCF2
            clear hf hsf
            have kz : (k : Int) < (n2 : Int) := by omega
            by_cases hcf : 0 < ckR f
            · generalize ckR f = k2 at *
              go_wp2_with fail
              refine (HCF2.out _).mono ?_
              rintro e w10 ⟨rfl, hb10⟩
              have HT10 := Lib.hid (HT.out.step hb10)
              clear hb10 q0 q1 q2 HCF2
              go_wp2
              go_ret
              exact ⟨rfl, HT10.out.bel⟩
            · have hcf2 : decide (0 < ckR f) = false := decide_eq_false hcf
              generalize ckR f = k2 at *
              go_wp2_with fail
              refine (HCF2.out _).mono ?_
              rintro e w10 ⟨rfl, hb10⟩
              have HT10 := Lib.hid (HT.out.step hb10)
              clear hb10 q0 q1 q2 HCF2
              go_wp2
              go_roundw
              case rel => exact ⟨k + 1, by omega, by go_num, HT10.out⟩
              case measure => simp [intOf]; omega
          · obtain rfl : k = n2 := by omega
            have d0 : decide ((k : Int) < (k : Int)) = false := decide_eq_false (by omega)
            have hup : ∀ W : World, RS w c A1 A2 n1 c1 k c2 l1 l2 W → RdC W W.heap.size A1 n1 c1 l1 ∧ RdC W W.heap.size A2 k c2 l2 := fun W h => ⟨h.r1.more (by have := h.sz; omega), h.r2.more (by have := h.sz; omega)⟩
            have HUP := Lib.hid hup
            clear hup
            go_wp2_with fail
            refine (goodRows_any A1 n1 c1 l1 wr (HUP.out _ HT.out).1 HLA.out.2).mono ?_
            rintro e w10 ⟨b, rfl, hgd, hb10⟩
            have HT10 := Lib.hid (HT.out.step hb10)
            clear hb10 HT
            cases b with
            | false =>
              go_wp2
              go_ret
              exact ⟨rfl, HT10.out.bel⟩
            | true =>
              have HGD := Lib.hid (hgd rfl)
              clear hgd
              have HAP := Lib.hid (apply_any A1 A2 n1 c1 k c2 l1 l2 w10 (HUP.out _ HT10.out).1 (HUP.out _ HT10.out).2 (by omega))
              go_wp2_with fail
              refine HAP.out.mono ?_
              rintro e w11 ⟨v, out, rfl, hown, hao, hb11⟩
              obtain ⟨A3, c3, rfl, hr11⟩ := RdC.of_own hown
              have HT11 := Lib.hid (HT10.out.step hb11)
              have HR11 := Lib.hid hr11
              have HA11 := Lib.hid hao
              clear hown hao hb11 hr11 HAP HT10
              have HAD := Lib.hid (applied_any A1 A2 n1 c1 k c2 l1 l2 w11 (HUP.out _ HT11.out).1 (HUP.out _ HT11.out).2 (by omega) HGD.out)
              go_wp2_with fail
              refine HAD.out.mono ?_
              rintro e w12 ⟨v, out2, rfl, hown, hao, hb12⟩
              obtain ⟨A4, c4, rfl, hr12⟩ := RdC.of_own hown
              have ho : out = out2 := HA11.out.unique hao (fun _ => rfl)
              subst ho
              have HT12 := Lib.hid (HT11.out.step hb12)
              have HSM := Lib.hid (sameC_any A3 A4 out.length c3 c4 w11.heap.size w12.heap.size out w12 (HR11.out.below hb12) hr12)
              clear hown hao hb12 hr12 HAD HT11
              go_wp2_with fail
              refine HSM.out.mono ?_
              rintro e w13 ⟨rfl, q, rfl⟩
              have HT13 := Lib.hid (HT12.out.drewN q)
              clear HSM
              go_wp2
              go_ret
              exact ⟨rfl, HT13.out.bel⟩
end Go.Proofs.Ytdkjnclbgkcblaa
