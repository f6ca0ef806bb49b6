/-
  WALK: hammerpondtop.TopUnits: the call returns true, whatever the text, the files, the goal, the answers.
-/
import Derived.Test.YtlkpbpecgdphaaaGreatDoorMade
import Derived.Test.YtlkpbpecgdphaaaGreatDoorUd
import Derived.Test.YtlkpbpecgdphaaaGreatDoorUv
namespace Go.Proofs.YtlkpbpecgdphaaaGreatDoor
open Go.RowKit

def TnPost (w : World) (e : Ending) (w' : World) : Prop := e = .returned (.bool true) ∧ Below w.heap.size w w'
def TnRel (w6 : World) (bi n : Nat) (U : List (List Nat)) (i : Value) (wr : World) : Prop := ∃ k : Nat, k ≤ U.length ∧ i = .int .i64 k ∧ Upd w6 wr (One bi) ∧ Blk wr bi tI (icells (inL (U.take k) n))
def TmRel (w6 : World) (bi n : Nat) (L : List (List Nat)) (u : List Nat) (i : Value) (wr : World) : Prop := ∃ k : Nat, k ≤ u.length ∧ i = .int .i64 k ∧ Upd w6 wr (One bi) ∧ Blk wr bi tI (icells (inL (L ++ [u.take k]) n))
def TlRel (w6 : World) (bi n : Nat) (U : List (List Nat)) (N : Nat) (i : Value) (wr : World) : Prop := ∃ k : Nat, k ≤ N ∧ i = .int .i64 k ∧ Upd w6 wr (One bi) ∧ Blk wr bi tI (icells (inL U n))
theorem RdX.first {w : World} {size m k : Nat} {A : Option Addr} {xs : List Value} (h : RdX w size A m xs) (hk : k ≤ m) : RdX w size A k (xs.take (k * size)) := by
  refine ⟨?_, fun u hu => h.2.1 u (List.mem_of_mem_take hu), fun h0 => ?_⟩
  · rw [List.length_take, h.1]
    exact Nat.min_eq_left (Nat.mul_le_mul_right size hk)
  · obtain ⟨b, off, e, hc⟩ := h.2.2 (by omega)
    refine ⟨b, off, e, fun j u hu => hc j u ?_⟩
    rw [List.getElem?_take] at hu
    split at hu
    · exact hu
    · cases hu
theorem bcells_take (st : List Bool) (k : Nat) : (bcells st).take (k * 1) = bcells (st.take k) := by simp [bcells]
theorem getD_take {st : List Bool} {k i : Nat} (h : i < k) : (st.take k).getD i false = st.getD i false := by
  simp [List.getD_eq_getElem?_getD, List.getElem?_take, h]
theorem Upd.drews {a w : World} {S : Nat → Prop} (h : Upd a w S) {n : Nat} : Upd a (w.drewN n) S := by
  induction n with
  | zero => exact h
  | succ n ih => exact ih.drew
theorem Blk.drews {w : World} {b n : Nat} {t : TypeId} {cs : Array Value} (h : Blk w b t cs) : Blk (w.drewN n) b t cs := by
  induction n with
  | zero => exact h
  | succ n ih => exact ih.drew
/-- A later unit's members are in none of the earlier ones. -/
theorem UnOk.fresh {n : Nat} {st : List Bool} {ph : Nat → Bool} {M : Nat → List (Option Nat)} {U : List (List Nat)} (h : UnOk n st ph M U) {i : Nat} {u : List Nat} (hu : U[i]? = some u) {x : Nat} (hx : x ∈ u) : ∀ v ∈ U.take i, x ∉ v := fun v hv hxv => by
  obtain ⟨j, hj⟩ := List.getElem?_of_mem hv
  rw [List.getElem?_take] at hj
  split at hj
  · rename_i hji
    have := h.apart j i v u x hj hu hxv hx
    omega
  · cases hj
theorem inc_fresh {u : List Nat} (h : u.Pairwise (· < ·)) {k x : Nat} (hk : u[k]? = some x) : x ∉ u.take k := fun hx => by
  obtain ⟨j, hj⟩ := List.getElem?_of_mem hx
  rw [List.getElem?_take] at hj
  split at hj
  · rename_i hjk
    have := inc_inj h hk hj
    omega
  · cases hj
theorem inc_lt {u : List Nat} (h : u.Pairwise (· < ·)) {j k x y : Nat} (hjk : j < k) (hj : u[j]? = some x) (hk : u[k]? = some y) : x < y := by
  obtain ⟨h1, e1⟩ := List.getElem?_eq_some_iff.1 hj
  obtain ⟨h2, e2⟩ := List.getElem?_eq_some_iff.1 hk
  rw [← e1, ← e2]
  exact List.pairwise_iff_getElem.1 h j k h1 h2 hjk
theorem headD_at {u : List Nat} {x : Nat} (h : u[0]? = some x) : u.headD 0 = x := by
  cases u with
  | nil => cases h
  | cons a t => simpa using h
set_option maxHeartbeats 16000000 in
set_option maxRecDepth 100000 in
theorem topUnits_any (s goal : ByteArray) (A B : Option Addr) (n c nb cb : Nat) (l : List F) (st : List Bool) (w : World) (hf : RdF w w.heap.size A n c l) (hs : RdX w 1 B nb (bcells st)) (hnb : nb ≤ cb) (hcb : cb ≤ maxLen) (hz : s.size ≤ 9223372036854775807) (hgz : goal.size ≤ 9223372036854775807) (hm : MaxOk w) :
    Calls Tryz.prog 6 #[.string s, .slice A n c, .string goal, .slice B nb cb] w (TnPost w) := by
  have HM := Lib.hid hm
  have HF := Lib.hid hf
  have HST := Lib.hid hs
  have HSL := Lib.hid (bools_len hs)
  unfold maxLen at hcb
  obtain ⟨q, hq⟩ : ∃ q, q = parseR s := ⟨_, rfl⟩
  have HL := Lib.hid (show Lim q.2 by rw [hq]; exact parse_lim _)
  have HU := Lib.hid (show UniqT q.2 by rw [hq]; exact parse_uniq _)
  have HP := Lib.hid (show ∀ W, MaxOk W → Calls Tryz.prog 27 #[.string s] W (fun e w' => ∃ vv vr vp R, e = .returned (.tuple #[.agg #[vv, vr, vp], errV q.1]) ∧ MkOw w' W.heap.size q.2 vv vr vp R ∧ Below W.heap.size W w') from fun W h => by rw [hq]; exact parse_any s W h hz)
  obtain ⟨q1, m⟩ := q
  dsimp only at HL HU HP
  clear hm hf hq hs
  go_enter Tryz.func6, Tryz.ntmps6
  go_wp2_with fail
  refine (made_any w HM.out).mono ?_
  rintro e w1 ⟨rfl, hb1⟩
  have HB1 := Lib.hid hb1
  have HM1 := Lib.hid (HM.out.below hb1)
  have HF1 := Lib.hid (RdF.belowS HF.out hb1)
  clear hb1 HM HF
  go_wp2_with fail
  refine (HP.out w1 HM1.out).mono ?_
  rintro e w2 ⟨vv, vr, vp, R, rfl, hmo, hb2⟩
  obtain ⟨Av, cv, rfl⟩ := own_slice hmo.vars
  obtain ⟨Ar, cr, rfl⟩ := own_slice hmo.rules
  obtain ⟨Ap, cp, rfl⟩ := own_slice hmo.phony
  have hba : Below w2.heap.size w2 (w2.alloc (.cells #[.slice Av m.vars.length cv, .slice Ar R.length cr, .slice Ap m.phony.length cp] 29)) := (Below.refl _ _).alloc (Nat.le_refl _) _
  have pm := Blk.new w2 29 #[.slice Av m.vars.length cv, .slice Ar R.length cr, .slice Ap m.phony.length cp]
  have hb3 := hb2.trans (hba.mono hb2.size)
  have HO := Lib.hid (hmo.below hba)
  have HB3 := Lib.hid (HB1.out.trans (hb3.mono HB1.out.size))
  have HM3 := Lib.hid (HM1.out.below hb3)
  have HF3 := Lib.hid (RdF.belowS HF1.out hb3)
  have PM := Lib.hid pm
  obtain ⟨w3, hw3⟩ : ∃ w3, w3 = w2.alloc (.cells #[.slice Av m.vars.length cv, .slice Ar R.length cr, .slice Ap m.phony.length cp] 29) := ⟨_, rfl⟩
  rw [← hw3] at HO HB3 HM3 HF3 PM
  have HW3 := Lib.hid hw3
  clear hmo hb2 hba pm hb3 HM1 HF1 HP hw3
  by_cases h1 : q1 = 0
  · subst h1
    rw [errV_zero]
    by_cases hsz : 800 < s.size
    · have t1 : (800 : Int) < (s.size : Int) := by omega
      go_wp2
      go_ret
      rw [← HW3.out]
      exact ⟨rfl, HB3.out⟩
    have t1 : decide ((800 : Int) < (s.size : Int)) = false := decide_eq_false (by omega)
    go_wp2_with fail
    rw [← HW3.out]
    clear HW3
    refine (light_any A n c l w3 HF3.out).mono ?_
    rintro e w4 ⟨b, rfl, hlit, ⟨k4, rfl⟩⟩
    have hb4 := below_drews w3 k4
    have HO4 := Lib.hid (HO.out.below hb4)
    have HB4 := Lib.hid (HB3.out.trans (hb4.mono HB3.out.size))
    have HM4 := Lib.hid (HM3.out.below hb4)
    have HF4 := Lib.hid (RdF.belowS HF3.out hb4)
    have PM4 := Lib.hid (show Blk (w3.drewN k4) w2.heap.size 29 _ from (hb4.block _ PM.out.lt).trans PM.out)
    have HLT := Lib.hid hlit
    clear hb4 hlit HO HB3 HM3 HF3 PM
    generalize w3.drewN k4 = w4 at *
    cases b with
    | false =>
      go_wp2
      go_ret
      exact ⟨rfl, HB4.out⟩
    | true =>
      by_cases hgs : 20 < goal.size
      · have t2 : (20 : Int) < (goal.size : Int) := by omega
        go_wp2
        go_ret
        exact ⟨rfl, HB4.out⟩
      have t2 : decide ((20 : Int) < (goal.size : Int)) = false := decide_eq_false (by omega)
      have hnl := HF4.out.1
      have hlt := HLT.out rfl
      have x0 := PM4.out.cell 0
      have x1 := PM4.out.cell 1
      have x2 := PM4.out.cell 2
      have hof := of_any m l goal _ _ _ R A c w4 HO4.out.rd (by rw [hnl]; exact HF4.out) HL.out HU.out hlt.2.1 (Nat.le_trans hlt.1 (by omega)) (by omega) (fun f hf => Nat.le_trans (hlt.2.2 f hf).1 (by omega)) HM4.out
      rw [hnl] at hof
      have HOF := Lib.hid hof
      have hn24 : n ≤ 24 := by rw [← hnl]; exact hlt.1
      clear hnl hlt hof
      go_wp2_with fail
      refine HOF.out.mono ?_
      rintro e w5 ⟨A5, c5, R5, rfl, hgp, hb5⟩
      have HB5 := Lib.hid (HB4.out.trans (hb5.mono HB4.out.size))
      have hfew := graph_few (l := l) (goal := goal) HL.out
      by_cases h0 : (graphR m l goal).1 = 0
      · rw [h0, errV_zero]
        clear HOF
        revert hgp hfew
        generalize (graphR m l goal).2 = out
        intro hgp hfew
        have HGP := Lib.hid hgp
        have HFEW := Lib.hid hfew
        have hno10 : out.length ≤ 10 := hfew.1
        have hb5' := hb5
        clear hgp hfew hb5 HF4 HO4 PM4 x0 x1 x2
        by_cases hst : nb < out.length
        · have s1 : (nb : Int) < (out.length : Int) := by omega
          go_wp2
          go_ret
          exact ⟨rfl, HB5.out⟩
        · have s1 : decide ((nb : Int) < (out.length : Int)) = false := decide_eq_false (by omega)
          have hon : out.length ≤ nb := by omega
          have hrx : RdX w5 1 B out.length (bcells (st.take out.length)) := by
            have := HST.out.first hon
            rw [bcells_take] at this
            exact ⟨this.1, this.2.1, fun h0 => by
              obtain ⟨b, off, e, hc⟩ := this.2.2 h0
              exact ⟨b, off, e, fun j v hv => (HB5.out.cell (p := ⟨b, off + j, none⟩) (cell_block_lt (hc j v hv))).trans (hc j v hv)⟩⟩
          have HRX := Lib.hid hrx
          have HUC := Lib.hid (units_any w5 A5 B out.length c5 out.length cb out R5 (st.take out.length) HGP.out hrx (by omega) (by omega) (fun g hg => Nat.le_trans (HFEW.out.2 g hg) (by omega)))
          have HOK := Lib.hid (units_ok (n := out.length) (st := st.take out.length) (ph := phV out) (M := mkM out) (fun i hi o ho a e => by
            unfold mkM at ho
            split at ho
            · obtain ⟨t, _, rfl⟩ := List.mem_map.1 ho
              exact makerO_lt e
            · cases ho))
          have HMK := Lib.hid (fun (t : ByteArray) (W : World) (hb : Below w5.heap.size w5 W) => maker_any A5 out.length c5 out R5 t W (HGP.out.belowS hb) (by omega) (fun g hg => Nat.le_trans (HFEW.out.2 g hg) (by omega)))
          revert HUC HOK
          generalize unitsF (clUpto out.length (st.take out.length) (mkM out) out.length) out.length (phV out) = U
          intro HUC HOK
          clear hrx hb5'
          go_wp2_with fail
          refine HUC.out.mono ?_
          rintro e w6 ⟨A6, c6, V, rfl, hun, hb6⟩
          have hmk := make_ints w6 out.length (by omega)
          have hba7 : Below w6.heap.size w6 (w6.alloc (.cells (Array.replicate out.length (.int .i64 0)) tI)) := (Below.refl _ _).alloc (Nat.le_refl _) _
          have pb7 := Blk.new w6 tI (Array.replicate out.length (.int .i64 0))
          have HUL := Lib.hid (show U.length ≤ maxLen ∧ ∀ (i : Nat) (u : List Nat), U[i]? = some u → u.length ≤ maxLen from ⟨by
            rcases hun.row.2 with ⟨_, h⟩ | ⟨g, cap, cur, _, _, _, h1, h2, _⟩
            · rw [h]; exact Nat.zero_le _
            · omega, fun i u hu => by
            obtain ⟨gv, x, _, _, _, _, _, ho⟩ := hun.at_ hu
            rcases ho.2 with ⟨_, h⟩ | ⟨g, cap, cur, _, _, _, h1, h2, _⟩
            · rw [h]; exact Nat.zero_le _
            · omega⟩)
          have hul := HUL.out.1
          unfold maxLen at hul
          have HUN := Lib.hid (fun (W : World) (hu : Upd (w6.alloc (.cells (Array.replicate out.length (.int .i64 0)) tI)) W (One w6.heap.size)) => hun.kept (w' := W) (fun k _ hk _ => (hu.block k (by simp; omega) (by show ¬ k = w6.heap.size; omega)).trans (hba7.block k hk)))
          have hbi : (w6.alloc (.cells (Array.replicate out.length (.int .i64 0)) tI)).heap.size = w6.heap.size + 1 := by simp
          have HBI := Lib.hid hbi
          have hb57 := hb6.trans (hba7.mono hb6.size)
          have H57 := Lib.hid hb57
          have PB7 := Lib.hid (show Blk (w6.alloc (.cells (Array.replicate out.length (.int .i64 0)) tI)) w6.heap.size tI (icells (inL [] out.length)) from by rw [inL_zero, icells_zero]; exact pb7)
          have h56 := hb6.size
          clear hun hb6 hba7 pb7 hbi hb57
          go_wp2_with fail
          clear hmk
          generalize w6.alloc (.cells (Array.replicate out.length (.int .i64 0)) tI) = w7 at *
          obtain ⟨bi, hbi⟩ : ∃ bi, bi = w6.heap.size := ⟨_, rfl⟩
          rw [← hbi] at HBI PB7 HUN h56 ⊢
          clear hbi HUC
          have HLOW := Lib.hid (fun (W : World) (hu : Upd w7 W (One bi)) => show Below w5.heap.size w5 W from H57.out.trans (hu.below H57.out.size (fun k hk => by rw [show k = bi from hk]; exact h56)))
          go_wp2_with fail
          go_loopw [15] (fun i wr => TnRel w7 bi out.length U i wr) (fun i _ => U.length - (intOf i).toNat)
          case atStart => exact ⟨0, Nat.zero_le _, by go_num, Upd.refl _ _, PB7.out⟩
          case round =>
            obtain ⟨i, hi, rfl, hu, hbk⟩ := hrel
            have HUo := Lib.hid hu
            have HBo := Lib.hid hbk
            clear hbk
            by_cases hlt : i < U.length
            · obtain ⟨u, hui⟩ : ∃ u, U[i]? = some u := ⟨_, List.getElem?_eq_getElem hlt⟩
              have hiz : (i : Int) < (U.length : Int) := by omega
              obtain ⟨gv, x, rfl, _, _, hVi, _, hox⟩ := (HUN.out wr hu).at_ hui
              have hu0 : 0 < u.length := List.length_pos_iff.2 (HOK.out.full i u hui)
              obtain ⟨x0, hx0⟩ : ∃ x, u[0]? = some x := ⟨_, List.getElem?_eq_getElem hu0⟩
              obtain ⟨gi, ci, rfl, _⟩ := ints_own hox hx0
              have HCE := Lib.hid (fun (W : World) (hu : Upd w7 W (One bi)) => (HUN.out W hu).cell_ hui hVi)
              have HUI := Lib.hid hui
              have HX0 := Lib.hid hx0
              have hull := HUL.out.2 i u hui
              unfold maxLen at hull
              obtain ⟨wo, hwo⟩ : ∃ wo, wo = wr := ⟨_, rfl⟩
              subst hwo
              clear hu hox hui hVi hx0
              go_wp2
              go_loopw [16] (fun j wr => TmRel w7 bi out.length (U.take i) u j wr) (fun j _ => u.length - (intOf j).toNat)
              case atStart => exact ⟨0, Nat.zero_le _, by go_num, HUo.out, by rw [List.take_zero, inL_nil]; exact HBo.out⟩
              case round =>
                obtain ⟨k, hk, rfl, hu2, hb2⟩ := hrel
                have HU2 := Lib.hid hu2
                have HB2 := Lib.hid hb2
                obtain ⟨cv1, cv2⟩ := HCE.out wr hu2
                have HC2 := Lib.hid cv2
                clear hu2 hb2 cv2
                by_cases hlt2 : k < u.length
                · obtain ⟨y, hy⟩ : ∃ y, u[k]? = some y := ⟨_, List.getElem?_eq_getElem hlt2⟩
                  have hkz : (k : Int) < (u.length : Int) := by omega
                  have cy := HC2.out k y hy
                  obtain ⟨hyn, hys⟩ := HOK.out.inn i u HUI.out y (List.mem_of_getElem? hy)
                  have hfr : ∀ v ∈ U.take i ++ [u.take k], y ∉ v := fun v hv => by
                    rcases List.mem_append.1 hv with hv | hv
                    · exact HOK.out.fresh HUI.out (List.mem_of_getElem? hy) v hv
                    · rw [List.mem_singleton.1 hv]; exact inc_fresh (HOK.out.inc i u HUI.out) hy
                  have cin : wr.cell? ⟨bi, y, none⟩ = some (.int .i64 0) := by rw [HB2.out.cell, icells_at _ _ (by rw [inL_len]; exact hyn), inL_v hyn, inV_none hfr]
                  have zin : wr.frozen? ⟨bi, y, none⟩ = false := HB2.out.free y
                  obtain ⟨bs, off, hBs, hbsl, cst⟩ := bools_at HRX.out (HLOW.out wr HU2.out) hyn
                  subst hBs
                  rw [hys] at cst
                  have hny : (y : Int) < (out.length : Int) := by omega
                  have t5 : decide ((out.length : Int) ≤ (y : Int)) = false := decide_eq_false (by omega)
                  have HNX := Lib.hid (show Blk (wr.setCell ⟨bi, y, none⟩ (.int .i64 ((i : Int) + 1))) bi tI (icells (inL (U.take i ++ [u.take (k + 1)]) out.length)) from by
                    have := HB2.out.set y (.int .i64 ((i : Int) + 1))
                    rw [icells_set] at this
                    rcases inL_more (L := U.take i) (u := u.take k) hyn (fun v hv => hfr v (List.mem_append_left _ hv)) with e | hm
                    · rw [show u.take (k + 1) = u.take k ++ [y] by rw [List.take_add_one, hy]; rfl, e, List.length_take, Nat.min_eq_left (by omega)]
                      exact this
                    · exact absurd hm (hfr _ (List.mem_append_right _ (List.mem_singleton.2 rfl))))
                  have HUX := Lib.hid (HU2.out.setOne y (.int .i64 ((i : Int) + 1)))
                  rcases Nat.eq_zero_or_pos k with h0 | h0
                  · have t6 : decide ((0 : Int) < (k : Int)) = false := decide_eq_false (by omega)
                    have t6n : decide (0 < k) = false := decide_eq_false (by omega)
                    clear hfr hy hys h0
                    go_wp2
                    go_roundw
                    case rel => exact ⟨k + 1, by omega, by go_num, HUX.out, HNX.out⟩
                    case measure => simp [intOf]; omega
                  · have t6 : decide ((0 : Int) < (k : Int)) = true := decide_eq_true (by omega)
                    have t6n : decide (0 < k) = true := decide_eq_true (by omega)
                    obtain ⟨j, hj⟩ : ∃ j, k = j + 1 := ⟨k - 1, by omega⟩
                    have z1 : (k : Int) - 1 = (j : Int) := by omega
                    obtain ⟨yp, hyp⟩ : ∃ y, u[j]? = some y := ⟨_, List.getElem?_eq_getElem (by omega)⟩
                    have cyp := HC2.out j yp hyp
                    have hpl := inc_lt (HOK.out.inc i u HUI.out) (by omega) hyp hy
                    have t7 : decide ((y : Int) ≤ (yp : Int)) = false := decide_eq_false (by omega)
                    have z2 : (j : Int) < (u.length : Int) := by omega
                    clear hfr hy hys h0 hyp hj
                    go_wp2
                    go_roundw
                    case rel => exact ⟨k + 1, by omega, by go_num, HUX.out, HNX.out⟩
                    case measure => simp [intOf]; omega
                · obtain rfl : k = u.length := by omega
                  have cx0 := HC2.out 0 x0 HX0.out
                  have HNI := Lib.hid (show Blk wr bi tI (icells (inL (U.take (i + 1)) out.length)) from by
                    have := HB2.out
                    rwa [List.take_length, inL_full HUI.out] at this)
                  rcases Nat.eq_zero_or_pos i with h0 | h0
                  · have t6 : decide ((0 : Int) < (i : Int)) = false := decide_eq_false (by omega)
                    have t6n : decide (0 < i) = false := decide_eq_false (by omega)
                    clear h0
                    go_wp2
                    go_quiet (fail)
                    go_wp2
                    go_roundw
                    case rel => exact ⟨i + 1, by omega, by go_num, HU2.out.drews, HNI.out.drews⟩
                    case measure => simp [intOf]; omega
                  · have t6 : decide ((0 : Int) < (i : Int)) = true := decide_eq_true (by omega)
                    have t6n : decide (0 < i) = true := decide_eq_true (by omega)
                    obtain ⟨j, hj⟩ : ∃ j, i = j + 1 := ⟨i - 1, by omega⟩
                    have z1 : (i : Int) - 1 = (j : Int) := by omega
                    obtain ⟨v, hvj⟩ : ∃ u, U[j]? = some u := ⟨_, List.getElem?_eq_getElem (by omega)⟩
                    obtain ⟨gv', xv, e1, _, _, hVj, _, hoxv⟩ := (HUN.out wr HU2.out).at_ hvj
                    have hv0 : 0 < v.length := List.length_pos_iff.2 (HOK.out.full j v hvj)
                    obtain ⟨y0, hy0⟩ : ∃ x, v[0]? = some x := ⟨_, List.getElem?_eq_getElem hv0⟩
                    obtain ⟨gj, cj, rfl, _⟩ := ints_own hoxv hy0
                    obtain ⟨cw1, cw2⟩ := (HUN.out wr HU2.out).cell_ hvj hVj
                    have cy0 := cw2 0 y0 hy0
                    have hfl := HOK.out.first j i v u (by omega) hvj HUI.out
                    rw [headD_at hy0, headD_at HX0.out] at hfl
                    have t7 : decide ((x0 : Int) ≤ (y0 : Int)) = false := decide_eq_false (by omega)
                    have z2 : (j : Int) < (U.length : Int) := by omega
                    clear e1 h0 hj hvj hVj hoxv hy0 cw2
                    go_wp2
                    go_quiet (fail)
                    go_wp2
                    go_roundw
                    case rel => exact ⟨i + 1, by omega, by go_num, HU2.out.drews, HNI.out.drews⟩
                    case measure => simp [intOf]; omega
            · obtain rfl : i = U.length := by omega
              have HBU := Lib.hid (show Blk wr bi tI (icells (inL U out.length)) from by
                have := HBo.out
                rwa [List.take_length] at this)
              obtain ⟨wo, hwo⟩ : ∃ wo, wo = wr := ⟨_, rfl⟩
              subst hwo
              clear hu HBo
              go_wp2
              go_loopw [18] (fun i wr => TlRel w7 bi out.length U out.length i wr) (fun i _ => out.length - (intOf i).toNat)
              case atStart => exact ⟨0, Nat.zero_le _, by go_num, HUo.out, HBU.out⟩
              case round =>
                obtain ⟨k, hk, rfl, hu2, hb2⟩ := hrel
                have HU2 := Lib.hid hu2
                have HB2 := Lib.hid hb2
                have hlow := HLOW.out wr hu2
                clear hu2 hb2
                by_cases hlt : k < out.length
                · obtain ⟨x, hx⟩ : ∃ x, R5[k]? = some x := ⟨_, List.getElem?_eq_getElem (by rw [HGP.out.rows.1]; exact hlt)⟩
                  obtain ⟨g, hg⟩ : ∃ g, out[k]? = some g := ⟨_, List.getElem?_eq_getElem (by rw [HGP.out.len]; exact hlt)⟩
                  have hkz : (k : Int) < (out.length : Int) := by omega
                  have HX := Lib.hid hx
                  have HG := Lib.hid hg
                  obtain ⟨b', off', hA5, _, -⟩ := HGP.out.rows.at_ hx
                  subst hA5
                  obtain ⟨-, ⟨An, cn, e2, -⟩, -, e4⟩ := HGP.out.each k x g hx hg
                  obtain ⟨x1, x2, x3, x4⟩ := x
                  dsimp only at e2 e4
                  subst e2 e4
                  have HCE := Lib.hid (fun (W : World) (hb : Below w5.heap.size w5 W) => show W.cell? ⟨b', off' + k * 4 + 1, none⟩ = some (.slice An g.nd.length cn) ∧ W.cell? ⟨b', off' + k * 4 + 3, none⟩ = some (.bool g.ph) ∧ RdS W W.heap.size An g.nd.length cn g.nd from by
                    obtain ⟨b2, o2, h2, _, c1, c2, c3, c4⟩ := (HGP.out.belowS hb).rows.at_ HX.out
                    injection h2 with h2
                    injection h2 with h2 h3
                    subst h2 h3
                    obtain ⟨-, ⟨An', cn', e2, r2⟩, -⟩ := (HGP.out.belowS hb).each k _ g HX.out HG.out
                    injection e2 with e2 _ e2'
                    subst e2 e2'
                    exact ⟨c2, c4, r2⟩)
                  have hndl := Nat.le_trans (HCE.out wr hlow).2.2.2.1 (HCE.out wr hlow).2.2.2.2.1
                  unfold maxLen at hndl
                  obtain ⟨bs, off, hBs, hbsl, -⟩ := bools_at HRX.out hlow hlt
                  subst hBs
                  have HBS := Lib.hid (fun (W : World) (hb : Below w5.heap.size w5 W) (a : Nat) (ha : a < out.length) => show W.cell? ⟨bs, off + a, none⟩ = some (.bool ((st.take out.length).getD a false)) from by
                    obtain ⟨b3, o3, e3, _, c3⟩ := bools_at HRX.out hb ha
                    injection e3 with e3
                    injection e3 with e3 e4
                    subst e3 e4
                    exact c3)
                  have cst := HBS.out wr hlow k hlt
                  obtain ⟨-, cph, -⟩ := HCE.out wr hlow
                  have cin : wr.cell? ⟨bi, k, none⟩ = some (.int .i64 (inV U k)) := by rw [HB2.out.cell, icells_at _ _ (by rw [inL_len]; exact hlt), inL_v hlt]
                  have HIN := Lib.hid (fun (W : World) (hb : Blk W bi tI (icells (inL U out.length))) (a : Nat) (ha : a < out.length) => show W.cell? ⟨bi, a, none⟩ = some (.int .i64 (inV U a)) from by rw [hb.cell, icells_at _ _ (by rw [inL_len]; exact ha), inL_v ha])
                  have HZ := Lib.hid (show ((st.take out.length).getD k false && !g.ph && (inV U k == 0)) = false from by
                    cases h1 : (st.take out.length).getD k false
                    · rfl
                    · cases h2 : g.ph
                      · obtain ⟨j, v, hj, hm⟩ := HOK.out.all k hlt h1 (by simp [phV, HG.out, h2])
                        have := inV_pos (L := U) (x := k) ⟨v, List.mem_of_getElem? hj, hm⟩
                        have hz : (inV U k == 0) = false := by rw [beq_eq_false_iff_ne]; omega
                        rw [hz]; rfl
                      · rfl)
                  have HJ := Lib.hid (fun (a : Nat) (ha : a < out.length) (hm : some a ∈ mkM out k) (h1 : (st.take out.length).getD k false = true) (h2 : (st.take out.length).getD a false = true) => show inV U k = inV U a from inV_congr fun v hv => by
                    obtain ⟨j, hj⟩ := List.getElem?_of_mem hv
                    exact HOK.out.joint k a hlt ha h1 h2 hm j v hj)
                  have HMM := Lib.hid (mkM_at HG.out)
                  obtain ⟨wo, hwo⟩ : ∃ wo, wo = wr := ⟨_, rfl⟩
                  subst hwo
                  clear hx hg hlow
                  have hgo : True := trivial
                  obtain ⟨sk, hsk⟩ : ∃ sk, sk = (st.take out.length).getD k false := ⟨_, rfl⟩
                  obtain ⟨zk, hzk⟩ : ∃ zk, zk = inV U k := ⟨_, rfl⟩
                  rw [← hsk] at cst HZ
                  rw [← hzk] at cin HZ
                  have HSK := Lib.hid hsk
                  have HZK := Lib.hid hzk
                  clear hsk hzk
                  have hcond : (sk = false) ∨ (sk = true ∧ g.ph = true) ∨ (sk = true ∧ g.ph = false ∧ (zk == 0) = false) := by
                    have := HZ.out
                    cases sk <;> cases hp : g.ph <;> simp_all
                  obtain ⟨ph, hph⟩ : ∃ ph, ph = g.ph := ⟨_, rfl⟩
                  rw [← hph] at cph hcond
                  clear hph
                  rcases hcond with rfl | ⟨rfl, rfl⟩ | ⟨rfl, rfl, hz0⟩
                  all_goals (
                    go_wp2
                    go_loopw [19] (fun i wr => TlRel w7 bi out.length U g.nd.length i wr) (fun i _ => g.nd.length - (intOf i).toNat)
                    case atStart => exact ⟨0, Nat.zero_le _, by go_num, HU2.out, HB2.out⟩
                    case round =>
                      obtain ⟨j, hj, rfl, hu3, hb3⟩ := hrel
                      have HU3 := Lib.hid hu3
                      have HB3 := Lib.hid hb3
                      have HLW3 := Lib.hid (HLOW.out wr hu3)
                      obtain ⟨d1, -, r2⟩ := HCE.out wr HLW3.out
                      clear hu3 hb3
                      by_cases hlt3 : j < g.nd.length
                      · obtain ⟨t, ht⟩ : ∃ t, g.nd[j]? = some t := ⟨_, List.getElem?_eq_getElem hlt3⟩
                        obtain ⟨b2, o2, rfl, hb2l, ct2⟩ := r2.at_ ht
                        have hjz : (j : Int) < (g.nd.length : Int) := by omega
                        have HC := Lib.hid (HMK.out t wr HLW3.out)
                        have HMT := Lib.hid (show makerO out t ∈ mkM out k by rw [HMM.out]; exact List.mem_map.2 ⟨t, List.mem_of_getElem? ht, rfl⟩)
                        clear ht r2
                        go_wp2_with fail
                        refine HC.out.mono ?_
                        rintro e w8 ⟨rfl, hb8⟩
                        have hu8 := HU3.out.two (Upd.of_below hb8 (One bi))
                        have hbk8 : Blk w8 bi tI (icells (inL U out.length)) := (hb8.block _ HB3.out.lt).trans HB3.out
                        have hlow8 := HLOW.out w8 hu8
                        have HU8 := Lib.hid hu8
                        have HB8 := Lib.hid hbk8
                        have s1 := HBS.out w8 hlow8 k hlt
                        have i1 := HIN.out w8 hbk8 k hlt
                        rw [← HSK.out] at s1
                        rw [← HZK.out] at i1
                        cases hmo : makerO out t with
                        | none =>
                          rw [show idxV none = -1 from rfl]
                          clear hu8 hbk8 hlow8 hb8 hmo
                          go_wp2
                          go_quiet (fail)
                          go_wp2
                          go_roundw
                          case rel => exact ⟨j + 1, by omega, by go_num, HU8.out.drews, HB8.out.drews⟩
                          case measure => simp [intOf]; omega
                        | some a =>
                          have hak : a < out.length := makerO_lt hmo
                          have s2 := HBS.out w8 hlow8 a hak
                          have i2 := HIN.out w8 hbk8 a hak
                          have hja := HJ.out a hak (by rw [← hmo]; exact HMT.out)
                          rw [← HSK.out, ← HZK.out] at hja
                          rw [show idxV (some a) = (a : Int) from rfl]
                          have a0 : decide ((0 : Int) ≤ (a : Int)) = true := decide_eq_true (by omega)
                          have a1 : (a : Int) < (out.length : Int) := by omega
                          revert s2 hja i2
                          generalize (st.take out.length).getD a false = sa
                          generalize inV U a = za
                          intro s2 i2 hja
                          have HJA := Lib.hid hja
                          clear hu8 hbk8 hlow8 hb8 hmo hja
                          cases sa with
                          | false =>
                            go_wp2
                            go_quiet (fail)
                            go_wp2
                            go_roundw
                            case rel => exact ⟨j + 1, by omega, by go_num, HU8.out.drews, HB8.out.drews⟩
                            case measure => simp [intOf]; omega
                          | true =>
                            first
                              | (have hq : false = (st.take out.length).getD k false := HSK.out
                                 clear hq
                                 go_wp2
                                 go_quiet (fail)
                                 go_wp2
                                 go_roundw
                                 case rel => exact ⟨j + 1, by omega, by go_num, HU8.out.drews, HB8.out.drews⟩
                                 case measure => simp [intOf]; omega)
                              | (have hzz := HJA.out rfl rfl
                                 have hz1 : (zk == za) = true := by rw [hzz]; simp
                                 have hz2 : (zk != za) = false := by rw [hzz]; simp
                                 clear hzz
                                 go_wp2
                                 go_quiet (fail)
                                 go_wp2
                                 go_roundw
                                 case rel => exact ⟨j + 1, by omega, by go_num, HU8.out.drews, HB8.out.drews⟩
                                 case measure => simp [intOf]; omega)
                      · obtain rfl : j = g.nd.length := by omega
                        go_wp2
                        go_roundw
                        case rel => exact ⟨k + 1, by omega, by go_num, HU3.out, HB3.out⟩
                        case measure => simp [intOf]; omega)
                · obtain rfl : k = out.length := by omega
                  go_wp2
                  go_ret
                  exact ⟨rfl, HB5.out.trans (hlow.mono HB5.out.size)⟩
      · have he : errV ((graphR m l goal).1 : Int) = .iface 80 (.int .i64 ((graphR m l goal).1 : Int)) := by unfold errV; rw [if_neg (by omega)]
        have hnil := graph_err h0
        rw [he]
        have hl0 : (graphR m l goal).2.length = 0 := by rw [hnil]; rfl
        rw [hl0]
        clear hgp hb5 hfew hnil hl0
        go_wp2
        go_ret
        exact ⟨rfl, HB5.out⟩
  · have he : errV (q1 : Int) = .iface 80 (.int .i64 (q1 : Int)) := by unfold errV; rw [if_neg (by omega)]
    rw [he]
    go_wp2
    go_ret
    rw [← HW3.out]
    exact ⟨rfl, HB3.out⟩
end Go.Proofs.YtlkpbpecgdphaaaGreatDoor
