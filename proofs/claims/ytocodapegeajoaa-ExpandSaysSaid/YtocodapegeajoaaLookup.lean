/-
  WALK: strings.genericReplacer.lookup over the replacer of expand.Auto, at a text that is empty or begins with a dollar.
-/
import Derived.Test.YtocodapegeajoaaLook
import Derived.Deep.QuietTactic
import Derived.BigQuiet
namespace Go.Proofs.Ytocodapegeajoaa
open Go.RowKit

theorem RepOk.drewN {w : World} {G : Nat} {v0 v1 v2 v3 : ByteArray} (h : RepOk w G v0 v1 v2 v3) (n : Nat) : RepOk (w.drewN n) G v0 v1 v2 v3 := h.keep (fun _ _ _ => by simp)
def LkPost (v0 v1 v2 v3 s : ByteArray) (w : World) (e : Ending) (w' : World) : Prop := e = .returned (lookV (lookR v0 v1 v2 v3 s)) ∧ ∃ q, w' = w.drewN q
def LkRel (G : Nat) (v0 v1 v2 v3 s : ByteArray) (w : World) (x1 x6 x7 x8 x9 x10 x11 : Value) (wr : World) : Prop := LkSt G v0 v1 v2 v3 s w x1 x6 x7 x8 x9 x10 x11 ∧ ∃ q, wr = w.drewN q
theorem empty_of {s : ByteArray} (h : s.size = 0) : s.toList.isEmpty = true := by rw [ByteArray.toList_eq]; have : s.data.toList.length = 0 := h; rw [List.length_eq_zero_iff.1 this]; rfl
theorem full_of {s : ByteArray} (h : ¬ s.size = 0) : s.toList.isEmpty = false := by
  rw [ByteArray.toList_eq]
  cases hl : s.data.toList with
  | nil => exact absurd (show s.size = 0 from by have : s.data.toList.length = 0 := by rw [hl]; rfl
                                                 simpa using this) h
  | cons a l => rfl
theorem lookR_none_of {v0 v1 v2 v3 s : ByteArray} (h : s.size < 2) : lookR v0 v1 v2 v3 s = none := by unfold lookR; rw [dif_neg (by omega)]

set_option maxRecDepth 100000 in
set_option maxHeartbeats 1600000 in
theorem lookup_any (G : Nat) (v0 v1 v2 v3 s : ByteArray) (w : World) (h : RepOk w G v0 v1 v2 v3) (hs : s.size ≤ maxLen) (h36 : ∀ h : 0 < s.size, s[0] = 36) :
    Calls Try.prog 141 #[ptr G, .string s, .bool false] w (LkPost v0 v1 v2 v3 s w) := by
  unfold maxLen at hs
  have HR := Lib.hid h
  have H36 := Lib.hid h36
  clear h h36
  go_enter Try.func141, Try.ntmps141
  go_wp2_with fail
  go_loopw [1, 6, 7, 8, 9, 10, 11] (fun x1 x6 x7 x8 x9 x10 x11 wr => LkRel G v0 v1 v2 v3 s w x1 x6 x7 x8 x9 x10 x11 wr) (fun _ _ _ _ _ _ n _ => 3 - (intOf n).toNat)
  case atStart => exact ⟨.root, 0, rfl⟩
  case round =>
    obtain ⟨hst, q, rfl⟩ := hrel
    have HQ := Lib.hid (HR.out.drewN q)
    generalize hwr : w.drewN q = wr at *
    have HW := Lib.hid hwr
    clear hwr
    have hq1 : ∀ k, ∃ n, wr.drewN k = w.drewN n := fun k => ⟨q + k, by rw [← HW.out, World.drewN_drewN]⟩
    have HD := Lib.hid hq1
    have HE := Lib.hid (show ∃ n, wr = w.drewN n from ⟨q, HW.out.symm⟩)
    clear hq1
    cases hst with
    | root =>
      have c1 : wr.cell? ⟨G, 1, none⟩ = some (.int .i64 0) := (HQ.out.gen.cell 1).trans (gC_1 _ _ _)
      have c4 : wr.cell? ⟨G, 4, none⟩ = some (tab (G + 1)) := (HQ.out.gen.cell 4).trans (gC_4 _ _ _)
      have c5 : wr.cell? ⟨G, 5, none⟩ = some (.int .i64 5) := (HQ.out.gen.cell 5).trans (gC_5 _ _ _)
      by_cases h0 : s.size = 0
      · have hem := empty_of h0
        have HN := Lib.hid (lookR_none_of (v0 := v0) (v1 := v1) (v2 := v2) (v3 := v3) (s := s) (by omega))
        clear h0
        go_wp2
        refine bodyPost_ret (v := .tuple #[.string ⟨#[]⟩, .int .i64 0, .bool false]) (by simp [results, Try.results141, go_sem]) rfl ⟨by rw [HN.out]; rfl, HE.out⟩
      · have hpos : 0 < s.size := by omega
        have hem := full_of h0
        have hc0 : s[0] = 36 := H36.out hpos
        have hi : s[0].toNat = 36 := by rw [hc0]; rfl
        have cm : wr.cell? ⟨G, 42, none⟩ = some (.int .u8 0) := by have := HQ.out.map 36 (by decide); rw [mp5_36.1] at this; exact this
        have t0 : wr.cell? ⟨G + 1, 0, none⟩ = some (ptr (G + 2)) := HQ.out.t0.cell 0
        have HC := Lib.hid hc0
        clear hc0 h0
        go_wp2_with fail
        go_quiet (fail)
        go_wp2
        go_roundw
        case rel => exact ⟨.mid (by omega) HC.out, HD.out nq⟩
        case measure => simp [intOf]
    | mid h1 h0 =>
      have hts : (s.extract 1 s.size).size = s.size - 1 := by simp
      have htc : ∀ (h : 0 < (s.extract 1 s.size).size) (h2 : 1 < s.size), (s.extract 1 s.size)[0] = s[1] := fun h h2 => by simp [ByteArray.getElem_extract]
      generalize s.extract 1 s.size = t at *
      have HS := Lib.hid hts
      have HC := Lib.hid htc
      have H0 := Lib.hid h0
      clear hts htc h0
      have c1 : wr.cell? ⟨G + 2, 1, none⟩ = some (.int .i64 0) := HQ.out.nd.cell 1
      have c4 : wr.cell? ⟨G + 2, 4, none⟩ = some (tab (G + 5)) := HQ.out.nd.cell 4
      have c5 : wr.cell? ⟨G, 5, none⟩ = some (.int .i64 5) := (HQ.out.gen.cell 5).trans (gC_5 _ _ _)
      by_cases h0 : t.size = 0
      · have hem := empty_of h0
        have HN := Lib.hid (lookR_none_of (v0 := v0) (v1 := v1) (v2 := v2) (v3 := v3) (s := s) (by have := HS.out; omega))
        clear h0
        go_wp2
        refine bodyPost_ret (v := .tuple #[.string ⟨#[]⟩, .int .i64 0, .bool false]) (by simp [results, Try.results141, go_sem]) rfl ⟨by rw [HN.out]; rfl, HE.out⟩
      · have hpos : 0 < t.size := by omega
        have hem := full_of h0
        have h2 : 2 ≤ s.size := by have := HS.out; omega
        have HL := Lib.hid (show lookR v0 v1 v2 v3 s = autoV v0 v1 v2 v3 t[0] by unfold lookR; rw [dif_pos h2, if_pos H0.out, HC.out hpos (by omega)])
        have hcm := HQ.out.map t[0].toNat t[0].toNat_lt
        cases hv : autoV v0 v1 v2 v3 t[0] with
        | none =>
          have HN := Lib.hid (show lookR v0 v1 v2 v3 s = none by rw [HL.out, hv])
          rcases autoV_none hv with h36 | hno
          · rw [h36, mp5_36.1] at hcm
            have cm : wr.cell? ⟨G, 42, none⟩ = some (.int .u8 0) := hcm
            have t0 : wr.cell? ⟨G + 5, 0, none⟩ = some noP := HQ.out.t1.cell 0
            clear hcm hv h0 HL
            go_wp2_with fail
            go_quiet (fail)
            go_wp2
            go_roundw
            case rel => exact ⟨.off _ 2 (by omega) HN.out, HD.out nq⟩
            case measure => simp [intOf]
          · rw [mp5_other _ t[0].toNat_lt hno] at hcm
            clear hv h0 HL hno
            have hk := t[0].toNat_lt
            obtain ⟨k, ek⟩ : ∃ k, t[0].toNat = k := ⟨_, rfl⟩
            rw [ek] at hcm hk
            have hk2 : (k : Int) < 256 := by omega
            go_wp2_with fail
            go_quiet (fail)
            go_wp2
            refine bodyPost_ret (v := .tuple #[.string ⟨#[]⟩, .int .i64 0, .bool false]) (by simp [results, Try.results141, go_sem]) rfl ⟨by rw [HN.out]; rfl, HD.out nq⟩
        | some v =>
          obtain ⟨m, N, p, hm, hm5, hp, htl, hNG, hbl⟩ := HQ.out.leaf_of hv
          rw [hm] at hcm
          have HV := Lib.hid (show lookR v0 v1 v2 v3 s = some v by rw [HL.out, hv])
          have hm6 : ((m : Int) == 5) = false := by rw [beq_eq_false_iff_ne]; omega
          have HB := Lib.hid hbl
          clear hv h0 HL hm hbl
          have hk := t[0].toNat_lt
          obtain ⟨k, ek⟩ : ∃ k, t[0].toNat = k := ⟨_, rfl⟩
          rw [ek] at hcm hk
          have hk2 : (k : Int) < 256 := by omega
          have hm2 : (m : Int) < 5 := by omega
          go_wp2_with fail
          go_quiet (fail)
          go_wp2
          go_roundw
          case rel => exact ⟨.leaf (by omega) N p v _ hp hNG HV.out (by rw [← HW.out] at HB; exact HB.out), HD.out nq⟩
          case measure => simp [intOf]
    | leaf h2 N p v x hp hN hv hb =>
      have hb' : Blk wr N tN (leaf v p) := by rw [← HW.out]; exact hb
      have c0 : wr.cell? ⟨N, 0, none⟩ = some (.string v) := hb'.cell 0
      have c1 : wr.cell? ⟨N, 1, none⟩ = some (.int .i64 p) := hb'.cell 1
      have c2 : wr.cell? ⟨N, 2, none⟩ = some noS := hb'.cell 2
      have c4 : wr.cell? ⟨N, 4, none⟩ = some noT := hb'.cell 4
      have HV := Lib.hid hv
      clear hv hb hb'
      have hgt : decide ((0 : Int) < p) = true := by simpa using hp
      go_wp2
      all_goals refine bodyPost_ret (v := .tuple #[.string v, .int .i64 2, .bool true]) (by simp [results, Try.results141, go_sem]) rfl ⟨by rw [HV.out]; rfl, HE.out⟩
    | off x n hn hv =>
      have HV := Lib.hid hv
      clear hv
      go_wp2
      refine bodyPost_ret (v := .tuple #[.string ⟨#[]⟩, .int .i64 0, .bool false]) (by simp [results, Try.results141, go_sem]) rfl ⟨by rw [HV.out]; rfl, HE.out⟩
end Go.Proofs.Ytocodapegeajoaa
