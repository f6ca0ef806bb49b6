/-
  WALK: hammerpondref.MakeFault of a description: 0 just where checkR holds, 3 otherwise.
-/
import Derived.Test.YtlkpbpecgdphaaaFew
import Derived.Test.YtlkpbpecgdphaaaRefWords
import Derived.Test.YtlkpbpecgdphaaaGl
import Derived.Deep.QuietTactic
import Derived.BigQuiet
namespace Go.Proofs.Ytlkpbpecgdphaaa
open Go.RowKit

theorem quiet_eq {P : Program} {f : FuncId} {args : Array Value} {w : World} {n : Nat} {v : Value} (h : Calls P f args (w.drewN n) fun e w' => e = .returned v ∧ w.drewN n = w') : Calls P f args (w.drewN n) fun e w'' => e = .returned v ∧ ∃ m, w'' = w.drewN m :=
  h.mono fun _ _ ⟨he, hm⟩ => ⟨he, n, hm.symm⟩
structure FtRel (m : Mk) (w0 : World) (v i : Value) (wr : World) : Prop where
  ex : ∃ (k : Nat) (M : List ByteArray), k ≤ m.rules.length ∧ i = .int .i64 k ∧ M.length ≤ 2 * k ∧ checkR m = chk m.phony M (m.rules.drop k) ∧ wr.ownsRow w0.heap.size 9 1 v M.length (tcells M) ∧ Below w0.heap.size w0 wr
structure FiRel (u : Ru) (M : List ByteArray) (w0 : World) (rb : Nat) (x : Row3) (v i : Value) (wr : World) : Prop where
  ex : ∃ j : Nat, j ≤ u.1.length ∧ i = .int .i64 j ∧ (∀ a y, a < j → u.1[a]? = some y → inT M y = false) ∧ wr.ownsRow w0.heap.size 9 1 v (M ++ u.1.take j).length (tcells (M ++ u.1.take j)) ∧ Below w0.heap.size w0 wr ∧ wr.heap[rb]? = some (.cells #[x.1, x.2.1, x.2.2] 81 (0, 0))
structure FpRel (m : Mk) (M : List ByteArray) (i : Value) : Prop where
  ex : ∃ k : Nat, k ≤ m.phony.length ∧ i = .int .i64 k ∧ ∀ a y, a < k → m.phony[a]? = some y → inT M y = true
theorem inT_app (a b : List ByteArray) (x : ByteArray) : inT (a ++ b) x = (inT a x || inT b x) := by unfold inT; rw [List.any_append]
theorem take_snocT {l : List ByteArray} {k : Nat} {x : ByteArray} (h : l[k]? = some x) : l.take (k + 1) = l.take k ++ [x] := by
  have hl := (List.getElem?_eq_some_iff.1 h).1
  rw [List.take_succ_eq_append_getElem hl, (List.getElem?_eq_some_iff.1 h).2]

set_option maxHeartbeats 4000000 in
set_option maxRecDepth 100000 in
theorem fault_any (m : Mk) (vv vr vp : Value) (R : List Row3) (w : World) (h : MkRd w m vv vr vp R) (hs : Sane m 700) (hf : Few m) :
    Calls Try.prog 20 #[.agg #[vv, vr, vp]] w fun e w' => e = .returned (.int .i64 (if checkR m = true then 0 else 3)) ∧ Below w.heap.size w w' := by
  obtain ⟨Av, cv, rfl, _⟩ := h.vars
  obtain ⟨Ar, cr, rfl, _⟩ := h.rules
  obtain ⟨Ap, cp, rfl, hph⟩ := h.phony
  have hl := h.len
  obtain ⟨ti, hi, hz, hsz, hby⟩ := text_parts
  have HI := Lib.hid hi
  have HZ := Lib.hid hz
  have HS := Lib.hid hsz
  have HBY := Lib.hid hby
  clear hi hz hsz hby
  generalize hr : (if checkR m = true then (0 : Int) else 3) = r
  have HR := Lib.hid hr
  clear hr
  have hnp := hs.phony
  have hnr : R.length ≤ 10 := by rw [hl]; exact hf.rules
  have HL := Lib.hid hl
  have HSA := Lib.hid hs
  have HF := Lib.hid hf
  clear hl hs hf
  generalize hnr0 : R.length = nr at *
  have HNR := Lib.hid hnr0
  generalize hnp0 : m.phony.length = np at *
  have HNP := Lib.hid hnp0
  generalize hnv0 : m.vars.length = nv at *
  clear hnr0 hnp0 hnv0
  have hba : Below w.heap.size w (w.alloc (.cells #[.slice Av nv cv, .slice Ar nr cr, .slice Ap np cp] 36)) := (Below.refl _ _).alloc (Nat.le_refl _) _
  have hc1 : (w.alloc (.cells #[.slice Av nv cv, .slice Ar nr cr, .slice Ap np cp] 36)).cell? ⟨w.heap.size, 1, none⟩ = some (.slice Ar nr cr) := by rw [World.cell?_alloc_at _ _ _ _ rfl]; rfl
  have hc2 : (w.alloc (.cells #[.slice Av nv cv, .slice Ar nr cr, .slice Ap np cp] 36)).cell? ⟨w.heap.size, 2, none⟩ = some (.slice Ap np cp) := by rw [World.cell?_alloc_at _ _ _ _ rfl]; rfl
  have HD := Lib.hid (h.belowS hba)
  have HPH := Lib.hid (hph.belowS hba)
  have HB := Lib.hid hba
  have hlt0 : w.heap.size < (w.alloc (.cells #[.slice Av nv cv, .slice Ar nr cr, .slice Ap np cp] 36)).heap.size := by simp
  clear h hba hph
  go_enter Try.func20, Try.ntmps20
  go_wp2_with fail
  generalize w.alloc (.cells #[.slice Av nv cv, .slice Ar nr cr, .slice Ap np cp] 36) = w0 at *
  have HC1 := Lib.hid hc1
  have HC2 := Lib.hid hc2
  clear hc1 hc2
  go_loopw [3, 4] (fun v i wr => FtRel m w0 v i wr) (fun _ i _ => nr - (intOf i).toNat)
  case atStart => exact ⟨0, [], Nat.zero_le _, rfl, by simp, rfl, World.ownsRow_nil _ _ _ _, Below.refl _ _⟩
  case round =>
    obtain ⟨k, M, hk, rfl, hMl, hchk, hown, hb⟩ := hrel.ex
    clear hrel
    rw [← HL.out] at hk
    have hc1 := (hb.cell (p := ⟨w.heap.size, 1, none⟩) hlt0).trans HC1.out
    have hc2 := (hb.cell (p := ⟨w.heap.size, 2, none⟩) hlt0).trans HC2.out
    have hD := HD.out.belowS hb
    by_cases hlt : k < nr
    · obtain ⟨x, hx⟩ : ∃ x, R[k]? = some x := ⟨_, List.getElem?_eq_getElem (by rw [HNR.out]; exact hlt)⟩
      obtain ⟨u, hu⟩ : ∃ u, m.rules[k]? = some u := ⟨_, List.getElem?_eq_getElem (by rw [← HL.out]; exact hlt)⟩
      have hum : u ∈ m.rules := List.mem_of_getElem? hu
      obtain ⟨A2, c2, e2, hr2⟩ := hD.rules
      rw [HNR.out] at e2 hr2
      simp only [Value.slice.injEq, true_and] at e2
      obtain ⟨rfl, rfl⟩ := e2
      obtain ⟨br, ofr, rfl, _, q0, q1, q2⟩ := hr2.at_ hx
      obtain ⟨sT, sN, sC⟩ := HD.out.each k x u hx hu
      obtain ⟨At, ct, eT, hT⟩ := sT
      obtain ⟨An, cn, eN, hN⟩ := sN
      obtain ⟨Ac, cc, eC, hC⟩ := sC
      obtain ⟨x0, x1, x2⟩ := x
      simp only at eT eN eC q0 q1 q2
      subst eT eN eC
      have hdr : m.rules.drop k = u :: m.rules.drop (k + 1) := by
        rw [List.drop_eq_getElem_cons (by rw [← HL.out]; exact hlt), (List.getElem?_eq_some_iff.1 hu).2]
      rw [hdr] at hchk
      have HCHK := Lib.hid hchk
      have hkz : (k : Int) < (nr : Int) := by omega
      have hb1 : Below w0.heap.size w0 (wr.alloc (.cells #[.slice At u.1.length ct, .slice An u.2.1.length cn, .slice Ac u.2.2.length cc] 81)) := hb.alloc hb.size _
      have HB1 := Lib.hid hb1
      have HO1 := Lib.hid (hown.alloc (.cells #[.slice At u.1.length ct, .slice An u.2.1.length cn, .slice Ac u.2.2.length cc] 81))
      have HN1 := Lib.hid (World.alloc_heap_new wr (.cells #[.slice At u.1.length ct, .slice An u.2.1.length cn, .slice Ac u.2.2.length cc] 81))
      have HTR := Lib.hid hT
      have h1 := HF.out.one u hum
      have h2 := (HSA.out.cmds u hum)
      have HAP := Lib.hid (HF.out.apart u hum)
      have hnt := h2.1
      have hnc := h2.2.2
      clear hx hu hr2 hN hC hT hdr hchk hb hb1 hown h2 hum hD
      go_wp2_with fail
      clear q0 q1 q2 hc1 hc2
      generalize hrb : wr.heap.size = rb at *
      generalize wr.alloc (.cells #[.slice At u.1.length ct, .slice An u.2.1.length cn, .slice Ac u.2.2.length cc] 81) = w1 at *
      clear hrb
      generalize hnt0 : u.1.length = nt at *
      have HNT := Lib.hid hnt0
      clear hnt0
      generalize hnc0 : u.2.2.length = nc at *
      have HNC := Lib.hid hnc0
      generalize u.2.1.length = nn at *
      clear hnc0
      go_loopw [3, 6] (fun v i wi => FiRel u M w0 rb (.slice At nt ct, .slice An nn cn, .slice Ac nc cc) v i wi) (fun _ i _ => nt - (intOf i).toNat)
      case atStart => exact ⟨0, Nat.zero_le _, rfl, fun a y ha => by omega, by simpa using HO1.out, HB1.out, HN1.out⟩
      case round =>
        obtain ⟨j, hj, rfl, hno, hown, hb, hblk⟩ := hrel.ex
        clear hrel HO1 HB1 HN1
        rw [HNT.out] at hj
        have p0 : wr.cell? ⟨rb, 0, none⟩ = some (.slice At nt ct) := by simp [World.cell?, hblk]
        have p2 : wr.cell? ⟨rb, 2, none⟩ = some (.slice Ac nc cc) := by simp [World.cell?, hblk]
        have hT := HTR.out.belowS hb
        have HBW := Lib.hid (HB.out.trans (hb.mono HB.out.size))
        have hml : (M ++ u.1.take j).length ≤ 40 := by simp; omega
        by_cases hlt2 : j < nt
        · obtain ⟨y, hy⟩ : ∃ y, u.1[j]? = some y := ⟨_, List.getElem?_eq_getElem (by rw [HNT.out]; exact hlt2)⟩
          obtain ⟨b', off, rfl, _, hcy⟩ := hT.at_ hy
          have hjz : (j : Int) < (nt : Int) := by omega
          obtain ⟨Am, cm, rfl, hrm⟩ := RdS.of_own hown
          have HRM := Lib.hid hrm
          have HO := Lib.hid hown
          have HBB := Lib.hid hb
          have HBK := Lib.hid hblk
          have HY := Lib.hid hy
          have HNO := Lib.hid hno
          have hin : inT (M ++ u.1.take j) y = inT M y := by rw [inT_app, HAP.out j y hy, Bool.or_false]
          have HIN := Lib.hid hin
          clear hrm hown hb hblk hy hno hin hT
          generalize hM2 : (M ++ u.1.take j).length = n2 at *
          have HM2 := Lib.hid hM2
          clear hM2
          go_wp2_with fail
          refine (in_any Am n2 cm (M ++ u.1.take j) y wr HRM.out (by omega)).mono ?_
          rintro e wr' ⟨rfl, rfl⟩
          rw [HIN.out]
          cases hq : inT M y with
          | true =>
            have hag := agrees_bad (phony := m.phony) HY.out hq
            have hch := HCHK.out
            rw [chk_no hag] at hch
            have HR2 := Lib.hid (show r = 3 by rw [← HR.out, hch]; rfl)
            clear hag hch
            go_wp2
            go_ret
            exact ⟨by rw [HR2.out]; rfl, HBW.out⟩
          | false =>
            have HO1 := Lib.hid (HO.out.alloc (.cells #[.string y] 9))
            have H1 := Lib.hid (RdS_one' wr y 9)
            have hb1 : Below w0.heap.size w0 (wr.alloc (.cells #[.string y] 9)) := HBB.out.alloc HBB.out.size _
            have HB1 := Lib.hid hb1
            have hs1 := hb1.size
            have HBK1 := Lib.hid (show (wr.alloc (.cells #[.string y] 9)).heap[rb]? = _ from ((Below.refl wr.heap.size wr).alloc (Nat.le_refl _) (.cells #[.string y] 9)).block rb (Array.getElem?_eq_some_iff.1 HBK.out).1 |>.trans HBK.out)
            have hsa : (wr.alloc (.cells #[.string y] 9)).heap.size = wr.heap.size + 1 := by simp
            have HSA1 := Lib.hid hsa
            clear hb1 hsa
            go_wp2_with (at_builtin; refine wpList_append_texts _ rfl (.tmp 39) (.tmp 45) _ rfl w0.heap.size 9 ti _ 16 Try.underlying27 HI.out HZ.out HS.out HBY.out rfl _ _ _ rfl HO1.out _ _ 1 1 [y] rfl H1.out ?_ ?_ ?_ ?_)
            · unfold maxLen; omega
            · omega
            · exact hs1
            intro v2 w2 hown2 hg2
            have HB2 := Lib.hid (HB1.out.grown hg2 hs1 (fun g' hg' => (HO.out.lt g' hg').1))
            have HV := Lib.hid hown2
            have HBK2 := Lib.hid ((hg2.block rb (Array.getElem?_eq_some_iff.1 HBK1.out).1 (row_not_blk HO1.out HBK1.out (by decide))).trans HBK1.out)
            clear hown2 HO1 H1 hs1 hg2
            go_wp2
            go_roundw
            case rel =>
              refine ⟨j + 1, by rw [HNT.out]; omega, by go_num, fun a z ha hz => ?_, ?_, HB2.out, HBK2.out⟩
              · rcases Nat.lt_or_ge a j with h3 | h3
                · exact HNO.out a z h3 hz
                · obtain rfl : a = j := by omega
                  rw [HY.out] at hz
                  injection hz with hz
                  rw [← hz]; exact hq
              · rw [take_snocT HY.out]
                exact owns_lenT HV.out
            case measure => simp [intOf]; omega
        · obtain rfl : j = nt := by omega
          have htk : u.1.take j = u.1 := List.take_of_length_le (by rw [HNT.out]; omega)
          rw [htk] at hown hml
          have hag := agrees_rest (phony := m.phony) (made := M) (u := u) (fun a x ha hx => hno a x (by rw [← HNT.out]; exact ha) hx)
          have hcz : decide (u.2.2.length = 0) = ((nc : Int) == 0) := by rw [HNC.out, Bool.eq_iff_iff]; simp
          rw [hcz] at hag
          clear hcz hno htk
          obtain ⟨y0, hy0⟩ : ∃ y, u.1[0]? = some y := ⟨_, List.getElem?_eq_getElem (by rw [HNT.out]; omega)⟩
          obtain ⟨b', off, rfl, _, hcy⟩ := hT.at_ hy0
          have n0 : inAt m.phony u.1 0 = inT m.phony y0 := by unfold inAt; rw [hy0]
          rw [n0] at hag
          have c2 := (hb.cell (p := ⟨w.heap.size, 2, none⟩) hlt0).trans HC2.out
          have HP := Lib.hid (HPH.out.belowS hb)
          have hjz : (0 : Int) < (j : Int) := by omega
          have hj0 : 0 < j := by omega
          rw [Nat.add_zero] at hcy
          have HAG := Lib.hid hag
          have HO := Lib.hid hown
          have HBB := Lib.hid hb
          have HT := Lib.hid hT
          clear hag hown hb hT n0 hy0 hblk
          go_wp2
          go_quiet (first | (go_at_call 37; refine quiet_eq (in_any Ap np cp m.phony y0 _ ?_ ?_); exact HP.out; omega))
          have HNX := Lib.hid (show agreesR m.phony M u = true → FtRel m w0 u3 (.int .i64 ((k : Int) + 1)) (wr.drewN nq) from fun e => by
            refine ⟨k + 1, M ++ u.1, by rw [← HL.out]; omega, by simp, by rw [List.length_append, HNT.out]; omega, ?_, HO.out, HBB.out.trans ((below_drewN wr nq).mono HBB.out.size)⟩
            rw [HCHK.out, chk_yes e])
          have HNO := Lib.hid (show agreesR m.phony M u = false → r = 3 from fun e => by
            rw [← HR.out, HCHK.out, chk_no e]; rfl)
          have p0' : (wr.drewN nq).cell? ⟨rb, 0, none⟩ = some (.slice (some ⟨b', off, none⟩) j ct) := p0
          have p2' : (wr.drewN nq).cell? ⟨rb, 2, none⟩ = some (.slice Ac nc cc) := p2
          have c2' : (wr.drewN nq).cell? ⟨w.heap.size, 2, none⟩ = some (.slice Ap np cp) := c2
          have HP2 := Lib.hid (show RdS (wr.drewN nq) (wr.drewN nq).heap.size Ap np cp m.phony from HP.out)
          have HT2 := Lib.hid (show RdS (wr.drewN nq) (wr.drewN nq).heap.size (some ⟨b', off, none⟩) j ct u.1 from HT.out)
          have HBW2 := Lib.hid (HBW.out.trans ((below_drewN wr nq).mono HBW.out.size))
          clear p0 p2 c2 hcy HP HT HBB HO HCHK HBW
          generalize wr.drewN nq = w3 at *
          by_cases hj1 : j = 1
          · have t1 : decide ((1 : Int) < (j : Int)) = false := decide_eq_false (by omega)
            have n1 : inAt m.phony u.1 1 = false := by unfold inAt; rw [List.getElem?_eq_none (by rw [HNT.out]; omega)]
            have hag := HAG.out
            rw [n1] at hag
            have HA2 := Lib.hid hag
            clear hag n1 HAG
            have HJ := Lib.hid hj1
            clear hj1
            cases hi0 : inT m.phony y0 <;> cases hz0 : ((nc : Int) == 0)
            all_goals (
              have hag := HA2.out
              rw [hi0, hz0] at hag
              have HA3 := Lib.hid hag
              clear hag
              go_wp2
              first
              | (go_ret; exact ⟨by rw [HNO.out (by rw [HA3.out]; rfl)]; rfl, HBW2.out⟩)
              | (go_roundw
                 case rel => exact HNX.out (by rw [HA3.out]; rfl)
                 case measure => simp [intOf]; omega))
          · obtain rfl : j = 2 := by omega
            obtain ⟨y1, hy1⟩ : ∃ y, u.1[1]? = some y := ⟨_, List.getElem?_eq_getElem (by rw [HNT.out]; omega)⟩
            obtain ⟨b1, off1, e1, _, hcy1⟩ := HT2.out.at_ hy1
            simp only [Option.some.injEq, Addr.mk.injEq, and_true] at e1
            obtain ⟨rfl, rfl⟩ := e1
            have n1 : inAt m.phony u.1 1 = inT m.phony y1 := by unfold inAt; rw [hy1]
            have hag := HAG.out
            rw [n1] at hag
            have HA2 := Lib.hid hag
            clear hag n1 HAG hy1
            go_wp2
            go_quiet (first | (go_at_call 37; refine quiet_eq (in_any Ap np cp m.phony y1 _ ?_ ?_); exact HP2.out; omega))
            have HNX2 := Lib.hid (show agreesR m.phony M u = true → FtRel m w0 u3 (.int .i64 ((k : Int) + 1)) (w3.drewN nq) from fun e => by
              obtain ⟨k', M', h1, h2, h3, h4, h5, h6⟩ := (HNX.out e).ex
              exact ⟨k', M', h1, h2, h3, h4, h5, h6.trans ((below_drewN w3 nq).mono h6.size)⟩)
            have HBW3 := Lib.hid (HBW2.out.trans ((below_drewN w3 nq).mono HBW2.out.size))
            have p2'' : (w3.drewN nq).cell? ⟨rb, 2, none⟩ = some (.slice Ac nc cc) := p2'
            clear p0' p2' c2' hcy1 HP2 HT2 HBW2 HNX
            generalize w3.drewN nq = w4 at *
            cases hi0 : inT m.phony y0 <;> cases hz0 : ((nc : Int) == 0) <;> cases hi1 : inT m.phony y1
            all_goals (
              have hag := HA2.out
              rw [hi0, hz0, hi1] at hag
              have HA3 := Lib.hid hag
              clear hag
              go_wp2
              first
              | (go_ret; exact ⟨by rw [HNO.out (by rw [HA3.out]; rfl)]; rfl, HBW3.out⟩)
              | (go_roundw
                 case rel => exact HNX2.out (by rw [HA3.out]; rfl)
                 case measure => simp [intOf]; omega))
    · obtain rfl : k = nr := by omega
      rw [List.drop_of_length_le (by rw [← HL.out]; omega), chk_end] at hchk
      have HCHK := Lib.hid hchk
      have HBW := Lib.hid (HB.out.trans (hb.mono HB.out.size))
      obtain ⟨Am, cm, rfl, hrm⟩ := RdS.of_own hown
      have HRM := Lib.hid hrm
      have HP := Lib.hid (HPH.out.belowS hb)
      generalize hM2 : M.length = n2 at *
      clear hchk hrm hown hb hD hM2
      go_wp2
      go_loop [10] (fun i => FpRel m M i) (fun i => np - (intOf i).toNat)
      case atStart => exact ⟨0, Nat.zero_le _, rfl, fun a y h => by omega⟩
      case round =>
        obtain ⟨j, hj, rfl, hyes⟩ := hrel.ex
        clear hrel
        rw [HNP.out] at hj
        have HYE := Lib.hid hyes
        clear hyes
        by_cases hlt2 : j < np
        · obtain ⟨y, hy⟩ : ∃ y, m.phony[j]? = some y := ⟨_, List.getElem?_eq_getElem (by rw [HNP.out]; exact hlt2)⟩
          obtain ⟨b', off, rfl, _, hcy⟩ := HP.out.at_ hy
          have hjz : (j : Int) < (np : Int) := by omega
          have HY := Lib.hid hy
          clear hy
          go_wp2_with fail
          refine (in_any Am n2 cm M y wr HRM.out (by omega)).mono ?_
          rintro e wr' ⟨rfl, rfl⟩
          cases hq : inT M y with
          | false =>
            have HR2 := Lib.hid (show r = 3 by
              have : checkR m = false := by
                rw [HCHK.out, List.all_eq_false]
                exact ⟨y, List.mem_of_getElem? HY.out, by rw [hq]; simp⟩
              rw [← HR.out, this]; rfl)
            go_wp2
            go_ret
            exact ⟨by rw [HR2.out]; rfl, HBW.out⟩
          | true =>
            go_wp2
            go_round
            case rel =>
              refine ⟨j + 1, by rw [HNP.out]; omega, by go_num, fun a z ha hz => ?_⟩
              rcases Nat.lt_or_ge a j with h3 | h3
              · exact HYE.out a z h3 hz
              · obtain rfl : a = j := by omega
                rw [HY.out] at hz
                injection hz with hz
                rw [← hz]; exact hq
            case measure => simp [intOf]; omega
        · obtain rfl : j = np := by omega
          have HR2 := Lib.hid (show r = 0 by
            have : checkR m = true := by
              rw [HCHK.out, List.all_eq_true]
              intro y hy
              obtain ⟨a, ha, e⟩ := List.mem_iff_getElem.1 hy
              exact HYE.out a y (by rw [← HNP.out]; exact ha) (by rw [List.getElem?_eq_getElem ha, e])
            rw [← HR.out, this]; rfl)
          go_wp2
          go_ret
          exact ⟨by rw [HR2.out]; rfl, HBW.out⟩
end Go.Proofs.Ytlkpbpecgdphaaa
