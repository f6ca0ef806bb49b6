/-
  WALK: makefile.Check: is a description fine as a whole?
-/
import Derived.Test.YtlkpbpecgdphaaaGreatDoorSet
namespace Go.Proofs.YtlkpbpecgdphaaaGreatDoor
open Go.RowKit

/-- Where Check stands: what was there stands; the description reads as it did; so does the box. -/
structure CkSt (w : World) (m : Mk) (vv vr vp : Value) (R : List Row3) (wr : World) : Prop where
  below : Below w.heap.size w wr
  rd : MkRd wr m vv vr vp R
  c1 : wr.cell? ⟨w.heap.size, 1, none⟩ = some vr
  c2 : wr.cell? ⟨w.heap.size, 2, none⟩ = some vp
section
variable {w wr wr' : World} {m : Mk} {vv vr vp : Value} {R : List Row3}
theorem CkSt.next (h : CkSt w m vv vr vp R wr) (hb : Below wr.heap.size wr wr') : CkSt w m vv vr vp R wr' :=
  ⟨h.below.trans (hb.mono h.below.size), h.rd.belowS hb, (hb.cell (World.block_lt_of_cell? _ _ h.c1)).trans h.c1, (hb.cell (World.block_lt_of_cell? _ _ h.c2)).trans h.c2⟩
theorem CkSt.turn (h : CkSt w m vv vr vp R wr) {bm : Nat} (hb : ∃ es c, wr.heap[bm]? = some (.map es c)) (hB : w.heap.size ≤ bm) (hg : wr.grownBy wr' (some bm)) : CkSt w m vv vr vp R wr' :=
  ⟨h.below.grown hg h.below.size (fun k hk => by injection hk with hk; omega), h.rd.past_map hb hg, cell_past_map hb hg h.c1, cell_past_map hb hg h.c2⟩
end
structure Ck1 (w : World) (m : Mk) (vv vr vp : Value) (R : List Row3) (bp : Nat) (i : Value) (wr : World) : Prop where
  ex : ∃ k : Nat, k ≤ m.phony.length ∧ i = .int .i64 k ∧ CkSt w m vv vr vp R wr ∧ SetOk wr bp k (m.phony.take k)
structure Ck2 (w : World) (m : Mk) (vv vr vp : Value) (R : List Row3) (bp bd : Nat) (i : Value) (wr : World) : Prop where
  ex : ∃ (k n : Nat) (made : List ByteArray), k ≤ R.length ∧ i = .int .i64 k ∧ n ≤ 1000 * k ∧ checkGo m.phony [] m.rules = checkGo m.phony made (m.rules.drop k) ∧ CkSt w m vv vr vp R wr ∧ SetOk wr bp m.phony.length m.phony ∧ SetOk wr bd n made
structure Ck3 (w : World) (m : Mk) (vv vr vp : Value) (R : List Row3) (bp bd b8 n : Nat) (made T : List ByteArray) (vt vn vc : Value) (i : Value) (wr : World) : Prop where
  ex : ∃ k : Nat, k ≤ T.length ∧ i = .int .i64 k ∧ CkSt w m vv vr vp R wr ∧ SetOk wr bp m.phony.length m.phony ∧ SetOk wr bd (n + k) (made ++ T.take k)
structure Ck4 (w : World) (m : Mk) (vv vr vp : Value) (R : List Row3) (bd n : Nat) (made : List ByteArray) (i : Value) : Prop where
  ex : ∃ k : Nat, k ≤ m.phony.length ∧ i = .int .i64 k ∧ ∀ j x, j < k → m.phony[j]? = some x → inT made x = true
theorem take_snoc {α : Type} {l : List α} {k : Nat} {x : α} (h : l[k]? = some x) : l.take (k + 1) = l.take k ++ [x] := by
  have hl := (List.getElem?_eq_some_iff.1 h).1
  rw [List.take_succ_eq_append_getElem hl]
  rw [(List.getElem?_eq_some_iff.1 h).2]
theorem drop_of {α : Type} {l : List α} {k : Nat} {x : α} (h : l[k]? = some x) : l.drop k = x :: l.drop (k + 1) := by
  have hl := (List.getElem?_eq_some_iff.1 h).1
  rw [List.drop_eq_getElem_cons hl, (List.getElem?_eq_some_iff.1 h).2]
def ckN (b : Bool) : Nat := if b = true then 0 else 3
theorem check_step {phony made : List ByteArray} {u : Ru} {l : List Ru} (h : agreesR phony made u = true) : checkGo phony made (u :: l) = checkGo phony (made ++ u.1) l := by rw [checkGo, if_pos h]
theorem check_stop {phony made : List ByteArray} {u : Ru} {l : List Ru} (h : agreesR phony made u = false) : (checkGo phony made (u :: l)).1 = false := by rw [checkGo, if_neg (by rw [h]; simp)]
theorem checkR_no {m : Mk} (h : (checkGo m.phony [] m.rules).1 = false) : checkR m = false := by unfold checkR; rw [h]; rfl
theorem checkR_bad {m : Mk} {made : List ByteArray} (h : checkGo m.phony [] m.rules = (true, made)) {k : Nat} {x : ByteArray} (hx : m.phony[k]? = some x) (hn : inT made x = false) : checkR m = false := by
  unfold checkR
  rw [h]
  have : (m.phony.all fun n => inT made n) = false := by
    rw [List.all_eq_false]
    exact ⟨x, List.mem_of_getElem? hx, by rw [hn]; simp⟩
  simp [this]
theorem checkR_ok {m : Mk} {made : List ByteArray} (h : checkGo m.phony [] m.rules = (true, made)) (hn : ∀ j x, j < m.phony.length → m.phony[j]? = some x → inT made x = true) : checkR m = true := by
  unfold checkR
  rw [h]
  have : (m.phony.all fun n => inT made n) = true := by
    rw [List.all_eq_true]
    intro x hx
    obtain ⟨j, hj, e⟩ := List.mem_iff_getElem.1 hx
    exact hn j x hj (by rw [List.getElem?_eq_getElem hj, e])
  simp [this]
theorem errN {k : Nat} (hk : k ≠ 0) : errV (k : Int) = .iface 80 (.int .i64 k) := errV_pos (by omega)

set_option maxHeartbeats 4000000 in
set_option maxRecDepth 100000 in
theorem check_any (m : Mk) (vv vr vp : Value) (R : List Row3) (w : World) (h : MkRd w m vv vr vp R) (hp : m.phony.length ≤ 1000000) (hr : m.rules.length ≤ 1000000) (hps : ∀ x ∈ m.phony, x.size ≤ 1000) (hrs : ∀ u ∈ m.rules, u.1.length ≤ 1000 ∧ u.2.2.length ≤ 1000 ∧ ∀ x ∈ u.1, x.size ≤ 1000) :
    Calls Tryz.prog 51 #[.agg #[vv, vr, vp]] w fun e w' => e = .returned (errV (ckN (checkR m))) ∧ Below w.heap.size w w' := by
  have hmm := @run_makeMap Tryz.prog
  obtain ⟨b, hb⟩ : ∃ b, b = checkR m := ⟨_, rfl⟩
  rw [← hb]
  have HB := Lib.hid hb
  clear hb
  have HPS := Lib.hid hps
  have HRS := Lib.hid hrs
  clear hps hrs
  obtain ⟨Av, cv, rfl, _⟩ := h.vars
  obtain ⟨Ar, cr, rfl, hrr⟩ := h.rules
  obtain ⟨Ap, cp, rfl, hrp⟩ := h.phony
  have hlr := h.len
  have HLR := Lib.hid hlr
  have HRL := Lib.hid hrr.1
  clear hrr hrp hlr
  have hba : Below w.heap.size w (w.alloc (.cells #[.slice Av m.vars.length cv, .slice Ar R.length cr, .slice Ap m.phony.length cp] 29)) := (Below.refl _ _).alloc (Nat.le_refl _) _
  have hc1 : (w.alloc (.cells #[.slice Av m.vars.length cv, .slice Ar R.length cr, .slice Ap m.phony.length cp] 29)).cell? ⟨w.heap.size, 1, none⟩ = some (.slice Ar R.length cr) := by rw [World.cell?_alloc_at _ _ _ _ rfl]; rfl
  have hc2 : (w.alloc (.cells #[.slice Av m.vars.length cv, .slice Ar R.length cr, .slice Ap m.phony.length cp] 29)).cell? ⟨w.heap.size, 2, none⟩ = some (.slice Ap m.phony.length cp) := by rw [World.cell?_alloc_at _ _ _ _ rfl]; rfl
  have hst : CkSt w m (.slice Av m.vars.length cv) (.slice Ar R.length cr) (.slice Ap m.phony.length cp) R (w.alloc (.cells #[.slice Av m.vars.length cv, .slice Ar R.length cr, .slice Ap m.phony.length cp] 29)) := ⟨hba, h.belowS hba, hc1, hc2⟩
  have hs1 : (w.alloc (.cells #[.slice Av m.vars.length cv, .slice Ar R.length cr, .slice Ap m.phony.length cp] 29)).heap.size = w.heap.size + 1 := by simp
  have HST0 := Lib.hid hst
  clear hst h hba hc1 hc2
  have hb2 : Below (w.alloc (.cells #[.slice Av m.vars.length cv, .slice Ar R.length cr, .slice Ap m.phony.length cp] 29)).heap.size (w.alloc (.cells #[.slice Av m.vars.length cv, .slice Ar R.length cr, .slice Ap m.phony.length cp] 29)) ((w.alloc (.cells #[.slice Av m.vars.length cv, .slice Ar R.length cr, .slice Ap m.phony.length cp] 29)).alloc (.map #[] 0)) := (Below.refl _ _).alloc (Nat.le_refl _) _
  have HST := Lib.hid (HST0.out.next hb2)
  have hse := SetOk.made (w.alloc (.cells #[.slice Av m.vars.length cv, .slice Ar R.length cr, .slice Ap m.phony.length cp] 29))
  rw [hs1] at hse
  have HSE := Lib.hid hse
  have q2 := HST.out.c2
  clear hse hb2 HST0 hs1
  go_enter Tryz.func51, Tryz.ntmps51
  go_wp2_with fail
  generalize (w.alloc (.cells #[.slice Av m.vars.length cv, .slice Ar R.length cr, .slice Ap m.phony.length cp] 29)).alloc (.map #[] 0) = w1 at *
  go_loopw [17] (fun i wr => Ck1 w m (.slice Av m.vars.length cv) (.slice Ar R.length cr) (.slice Ap m.phony.length cp) R (w.heap.size + 1) i wr) (fun i _ => m.phony.length - (intOf i).toNat)
  case atStart => exact ⟨0, Nat.zero_le _, rfl, HST.out, HSE.out⟩
  case round =>
    obtain ⟨k, hk, rfl, hst, hse⟩ := hrel.ex
    clear hrel HST HSE q2
    have HST := Lib.hid hst
    have HSE := Lib.hid hse
    clear hst hse
    by_cases hlt : k < m.phony.length
    · obtain ⟨x, hx⟩ : ∃ x, m.phony[k]? = some x := ⟨_, List.getElem?_eq_getElem hlt⟩
      obtain ⟨A2, c2, e2, hrp⟩ := HST.out.rd.phony
      simp only [Value.slice.injEq, true_and] at e2
      obtain ⟨rfl, rfl⟩ := e2
      obtain ⟨b', off, rfl, _, hcx⟩ := hrp.at_ hx
      have hkz : (k : Int) < (m.phony.length : Int) := by omega
      have hxs : x.size ≤ 1000 := HPS.out x (List.mem_of_getElem? hx)
      have HX := Lib.hid hx
      clear hx hrp
      obtain ⟨w2, hrun, hse2, hg2⟩ := HSE.out.store x (by unfold maxLen; omega) (by unfold maxLen; omega)
      rw [← take_snoc HX.out] at hse2
      have HS2 := Lib.hid (HST.out.turn HSE.out.block (by omega) hg2)
      have HE2 := Lib.hid hse2
      clear hse2 hg2
      go_wp2
      go_roundw
      case rel => exact ⟨k + 1, by omega, by go_num, HS2.out, HE2.out⟩
      case measure => simp [intOf]; omega
    · obtain rfl : k = m.phony.length := by omega
      have hse := HSE.out
      rw [List.take_length] at hse
      have hb2 : Below wr.heap.size wr (wr.alloc (.map #[] 0)) := (Below.refl _ _).alloc (Nat.le_refl _) _
      have hst2 := HST.out.next hb2
      have HS2 := Lib.hid hst2
      have HE2 := Lib.hid (hse.below hb2)
      have HD2 := Lib.hid (SetOk.made wr)
      have q1 := hst2.c1
      have hbw : w.heap.size + 1 < wr.heap.size := HSE.out.lt
      clear hse hb2 hst2 HST HSE
      go_wp2_with fail
      have hbd : w.heap.size ≤ wr.heap.size := by omega
      generalize wr.heap.size = bd at *
      generalize wr.alloc (.map #[] 0) = w2 at *
      have hbne : w.heap.size + 1 ≠ bd := by omega
      go_loopw [28] (fun i wq => Ck2 w m (.slice Av m.vars.length cv) (.slice Ar R.length cr) (.slice Ap m.phony.length cp) R (w.heap.size + 1) bd i wq) (fun i _ => R.length - (intOf i).toNat)
      case atStart => exact ⟨0, 0, [], Nat.zero_le _, rfl, by omega, rfl, HS2.out, HE2.out, HD2.out⟩
      case round =>
        obtain ⟨k, n, made, hk2, rfl, hn, hgo, hst, hse, hsd⟩ := hrel.ex
        clear hrel HS2 HE2 HD2 q1
        have HST := Lib.hid hst
        have HSE := Lib.hid hse
        have HSD := Lib.hid hsd
        have HGO := Lib.hid hgo
        clear hst hse hsd hgo
        by_cases hlt2 : k < R.length
        · obtain ⟨u, hu⟩ : ∃ u, m.rules[k]? = some u := ⟨_, List.getElem?_eq_getElem (by rw [← HLR.out]; exact hlt2)⟩
          obtain ⟨x, hx⟩ : ∃ x, R[k]? = some x := ⟨_, List.getElem?_eq_getElem hlt2⟩
          obtain ⟨s1, s2, s3⟩ := HST.out.rd.each k x u hx hu
          obtain ⟨A2, c2, e2, hrr⟩ := HST.out.rd.rules
          simp only [Value.slice.injEq, true_and] at e2
          obtain ⟨rfl, rfl⟩ := e2
          obtain ⟨b', off, rfl, _, hcx0, hcx1, hcx2⟩ := hrr.at_ hx
          obtain ⟨x1, x2, x3⟩ := x
          dsimp only at s1 s2 s3 hcx0 hcx1 hcx2
          obtain ⟨At, ct, rfl, hrt⟩ := s1
          obtain ⟨An, cn, rfl, hrn⟩ := s2
          obtain ⟨Ac, cc, rfl, hrc⟩ := s3
          have hkz : (k : Int) < (R.length : Int) := by omega
          have hkb : k ≤ 1000000 := by have := HLR.out; omega
          have hub := HRS.out u (List.mem_of_getElem? hu)
          have HU := Lib.hid hu
          have HX := Lib.hid hx
          have HUB := Lib.hid hub
          have hut : u.1.length ≤ 1000 := hub.1
          have hba : Below wr.heap.size wr (wr.alloc (.cells #[.slice At u.1.length ct, .slice An u.2.1.length cn, .slice Ac u.2.2.length cc] 115)) := (Below.refl _ _).alloc (Nat.le_refl _) _
          have g0 : (wr.alloc (.cells #[.slice At u.1.length ct, .slice An u.2.1.length cn, .slice Ac u.2.2.length cc] 115)).cell? ⟨wr.heap.size, 0, none⟩ = some (.slice At u.1.length ct) := by rw [World.cell?_alloc_at _ _ _ _ rfl]; rfl
          have g1 : (wr.alloc (.cells #[.slice At u.1.length ct, .slice An u.2.1.length cn, .slice Ac u.2.2.length cc] 115)).cell? ⟨wr.heap.size, 1, none⟩ = some (.slice An u.2.1.length cn) := by rw [World.cell?_alloc_at _ _ _ _ rfl]; rfl
          have g2 : (wr.alloc (.cells #[.slice At u.1.length ct, .slice An u.2.1.length cn, .slice Ac u.2.2.length cc] 115)).cell? ⟨wr.heap.size, 2, none⟩ = some (.slice Ac u.2.2.length cc) := by rw [World.cell?_alloc_at _ _ _ _ rfl]; rfl
          have HS3 := Lib.hid (HST.out.next hba)
          have HE3 := Lib.hid (HSE.out.below hba)
          have HD3 := Lib.hid (HSD.out.below hba)
          have HT3 := Lib.hid (hrt.belowS hba)
          have hl8 : wr.heap.size < (wr.alloc (.cells #[.slice At u.1.length ct, .slice An u.2.1.length cn, .slice Ac u.2.2.length cc] 115)).heap.size := by simp
          clear hba hrt hrn hrc hrr hu hx hub HST HSE HSD
          go_wp2_with fail
          generalize wr.alloc (.cells #[.slice At u.1.length ct, .slice An u.2.1.length cn, .slice Ac u.2.2.length cc] 115) = w3 at *
          generalize wr.heap.size = b8 at *
          refine (agrees_any (w.heap.size + 1) bd m.phony.length n u.1.length u.2.2.length ct cc At Ac _ ⟨An, u.2.1.length, cn, rfl⟩ m.phony made u w3 HT3.out rfl (by have := HUB.out.2.1; omega) HE3.out HD3.out (by omega) (fun x hx => by have := HUB.out.2.2 x hx; omega)).mono ?_
          rintro e w4 ⟨rfl, hb4⟩
          have HS4 := Lib.hid (HS3.out.next hb4)
          have HE4 := Lib.hid (HE3.out.below hb4)
          have HD4 := Lib.hid (HD3.out.below hb4)
          have r0 := (hb4.cell (p := ⟨b8, 0, none⟩) hl8).trans g0
          clear hb4 HS3 HE3 HD3 HT3 g0 g1 g2 hcx0 hcx1 hcx2
          cases hag : agreesR m.phony made u with
          | false =>
            have hbf : checkR m = false := checkR_no (by rw [HGO.out, drop_of HU.out]; exact check_stop hag)
            have H1 := Lib.hid (HB.out.trans hbf)
            clear hbf
            go_wp2
            go_ret
            exact ⟨by rw [H1.out]; rfl, HS4.out.below⟩
          | true =>
            have hgo2 : checkGo m.phony [] m.rules = checkGo m.phony (made ++ u.1) (m.rules.drop (k + 1)) := by rw [HGO.out, drop_of HU.out, check_step hag]
            have HG2 := Lib.hid hgo2
            clear hgo2
            go_wp2
            go_loopw [41] (fun i wq => Ck3 w m (.slice Av m.vars.length cv) (.slice (some ⟨b', off, none⟩) R.length cr) (.slice Ap m.phony.length cp) R (w.heap.size + 1) bd b8 n made u.1 .nilIface .nilIface .nilIface i wq) (fun i _ => u.1.length - (intOf i).toNat)
            case atStart => exact ⟨0, Nat.zero_le _, rfl, HS4.out, HE4.out, by simpa using HD4.out⟩
            case round =>
              obtain ⟨j, hj, rfl, hst, hse, hsd⟩ := hrel.ex
              clear hrel HS4 HE4 HD4 r0
              have HST := Lib.hid hst
              have HSE := Lib.hid hse
              have HSD := Lib.hid hsd
              clear hst hse hsd
              by_cases hlt3 : j < u.1.length
              · obtain ⟨y, hy⟩ : ∃ y, u.1[j]? = some y := ⟨_, List.getElem?_eq_getElem hlt3⟩
                obtain ⟨s1, _, _⟩ := HST.out.rd.each k _ u HX.out HU.out
                obtain ⟨A4, c4, e4, hrt⟩ := s1
                simp only [Value.slice.injEq, true_and] at e4
                obtain ⟨rfl, rfl⟩ := e4
                obtain ⟨b5, o5, rfl, _, hcy⟩ := hrt.at_ hy
                have hjz : (j : Int) < (u.1.length : Int) := by omega
                have hys : y.size ≤ 1000 := HUB.out.2.2 y (List.mem_of_getElem? hy)
                have HY := Lib.hid hy
                clear hy hrt
                obtain ⟨w5, hrun, hse2, hg2⟩ := HSD.out.store y (by unfold maxLen; omega) (by unfold maxLen; omega)
                rw [List.append_assoc, ← take_snoc HY.out] at hse2
                have HS5 := Lib.hid (HST.out.turn HSD.out.block hbd hg2)
                have HE5 := Lib.hid (HSE.out.kept hg2 (by intro e; injection e with e; exact hbne e))
                have HD5 := Lib.hid hse2
                clear hse2 hg2
                go_wp2
                go_roundw
                case rel => exact ⟨j + 1, by omega, by go_num, HS5.out, HE5.out, HD5.out⟩
                case measure => simp [intOf]; omega
              · obtain rfl : j = u.1.length := by omega
                have hsd := HSD.out
                rw [List.take_length] at hsd
                have HD5 := Lib.hid hsd
                clear hsd
                go_wp2
                go_roundw
                case rel => exact ⟨k + 1, _, _, by omega, by go_num, by omega, HG2.out, HST.out, HSE.out, HD5.out⟩
                case measure => simp [intOf]; omega
        · obtain rfl : k = R.length := by omega
          have hgo := HGO.out
          rw [HLR.out, List.drop_length] at hgo
          have hgo' : checkGo m.phony [] m.rules = (true, made) := hgo
          have HG := Lib.hid hgo'
          have c2' := HST.out.c2
          clear hgo hgo'
          go_wp2
          go_loop [52] (fun i => Ck4 w m (.slice Av m.vars.length cv) (.slice Ar R.length cr) (.slice Ap m.phony.length cp) R bd n made i) (fun i => m.phony.length - (intOf i).toNat)
          case atStart => exact ⟨0, Nat.zero_le _, rfl, fun j x h => by omega⟩
          case round =>
            obtain ⟨j, hj, rfl, hno⟩ := hrel.ex
            clear hrel
            have HNO := Lib.hid hno
            clear hno
            by_cases hlt4 : j < m.phony.length
            · obtain ⟨y, hy⟩ : ∃ y, m.phony[j]? = some y := ⟨_, List.getElem?_eq_getElem hlt4⟩
              obtain ⟨A4, c4, e4, hrt⟩ := HST.out.rd.phony
              simp only [Value.slice.injEq, true_and] at e4
              obtain ⟨rfl, rfl⟩ := e4
              obtain ⟨b5, o5, rfl, _, hcy⟩ := hrt.at_ hy
              have hjz : (j : Int) < (m.phony.length : Int) := by omega
              have hys : y.size ≤ 1000 := HPS.out y (List.mem_of_getElem? hy)
              have HY := Lib.hid hy
              clear hy hrt
              have hlk := HSD.out.look y (by unfold maxLen; omega)
              cases hin : inT made y with
              | false =>
                rw [hin] at hlk
                have H1 := Lib.hid (HB.out.trans (checkR_bad HG.out HY.out hin))
                go_wp2
                go_ret
                exact ⟨by rw [H1.out]; rfl, HST.out.below⟩
              | true =>
                rw [hin] at hlk
                go_wp2
                go_round
                case rel =>
                  refine ⟨j + 1, by omega, by go_num, fun q x hq hx => ?_⟩
                  rcases Nat.lt_or_ge q j with h1 | h1
                  · exact HNO.out q x h1 hx
                  · obtain rfl : q = j := by omega
                    rw [HY.out] at hx
                    injection hx with hx
                    rw [← hx]
                    exact hin
                case measure => simp [intOf]; omega
            · obtain rfl : j = m.phony.length := by omega
              have H1 := Lib.hid (HB.out.trans (checkR_ok HG.out HNO.out))
              go_wp2
              go_ret
              exact ⟨by rw [H1.out]; rfl, HST.out.below⟩
end Go.Proofs.YtlkpbpecgdphaaaGreatDoor
