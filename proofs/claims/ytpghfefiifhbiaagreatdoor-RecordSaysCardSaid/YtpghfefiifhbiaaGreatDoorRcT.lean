/-
  WALKS: the reader of package record: text. PLAIN: what a file's reading comes to, step by step.
-/
import Derived.Test.YtpghfefiifhbiaaGreatDoorRcQ
import Derived.Test.YtpghfefiifhbiaaGreatDoorRef
namespace Go.Proofs.YtpghfefiifhbiaaGreatDoor
open Go.RowKit Go.Sort

def txS (most : Nat) (st : St) : Option (ByteArray × Bs) := st.bind (txO most)
/-- What stands ahead of the text itself. -/
def s1T (st : St) : St := st.bind (expO 32)
def o2T (most : Nat) (st : St) : Option (Nat × Bs) := numS most (s1T st)
def s3T (most : Nat) (st : St) : St := (sOf (o2T most st)).bind (expO 58)
theorem txS_eq (most : Nat) (st : St) : txS most st = (s3T most st).bind fun s => if nOf (o2T most st) ≤ s.length then some (ba (s.take (nOf (o2T most st))), s.drop (nOf (o2T most st))) else none := by
  unfold txS s3T o2T s1T numS
  cases st with
  | none => rfl
  | some s =>
    show txO most s = _
    unfold txO
    simp only [Option.bind_some]
    cases expO 32 s with
    | none => rfl
    | some s1 =>
      simp only [Option.bind_some]
      cases numO most s1 with
      | none => rfl
      | some p => rfl
theorem exp_len {c : UInt8} {s r : Bs} (h : expO c s = some r) : r.length + 1 = s.length := by
  unfold expO at h
  split at h
  · cases h
  · split at h
    · injection h with h; subst h; rfl
    · cases h
theorem rest_bind_exp (c : UInt8) (st : St) : (rest (st.bind (expO c))).length ≤ (rest st).length := by
  cases st with
  | none => exact Nat.le_refl _
  | some s =>
    show (rest (expO c s)).length ≤ s.length
    cases h : expO c s with
    | none => exact Nat.zero_le _
    | some r => have := exp_len h; show r.length ≤ _; omega
theorem rest_numS (most : Nat) (st : St) : (rest (sOf (numS most st))).length ≤ (rest st).length := by
  cases st with
  | none => exact Nat.le_refl _
  | some s =>
    show (rest (sOf (numO most s))).length ≤ s.length
    cases h : numO most s with
    | none => exact Nat.zero_le _
    | some p => exact numO_len h
theorem nOf_le {most : Nat} (st : St) : nOf (numS most st) ≤ most := by
  cases st with
  | none => exact Nat.zero_le _
  | some s =>
    show nOf (numO most s) ≤ most
    cases h : numO most s with
    | none => exact Nat.zero_le _
    | some p => exact (numO_some (n := p.1) (r := p.2) h).1
def tOf (o : Option (ByteArray × Bs)) : ByteArray := (o.map (·.1)).getD ⟨#[]⟩
def TxP (b : Nat) (o : Option (ByteArray × Bs)) (w : World) (e : Ending) (w' : World) : Prop := e = .returned (.string (tOf o)) ∧ In w' b (sOf o) ∧ Upd w w' (One b)
theorem ba_take (s : Bs) (n : Nat) : (ba s).extract 0 n = ba (s.take n) := by
  apply ByteArray.ext
  simp [ba]
theorem ba_drop (s : Bs) (n : Nat) : (ba s).extract n (ba s).size = ba (s.drop n) := by
  rw [ba_size]
  apply ByteArray.ext
  simp [ba]
  rw [List.take_of_length_le (by simp)]
theorem env_upd {w w' : World} {b B : Nat} (h : Env w) (hB : EnvB B) (hb : B ≤ b) (hBw : B ≤ w.heap.size) (hu : Upd w w' (One b)) : Env w' :=
  h.belowB hB (hu.below hBw (fun k hk => by rw [show k = b from hk]; exact hb))

set_option maxRecDepth 100000 in
set_option maxHeartbeats 4000000 in
theorem textR_any (B b most : Nat) (st : St) (w : World) (h : In w b st) (hE : Env w) (hB : EnvB B) (hb : B ≤ b) (hm : most ≤ 1000) (hl : (rest st).length ≤ 1000000) :
    Calls Tryz.prog 33 #[ptr b, .int .i64 most] w (TxP b (txS most st) w) := by
  have hbw : B ≤ w.heap.size := Nat.le_trans hb (Nat.le_of_lt h.lt)
  have hl1 := Nat.le_trans (rest_bind_exp 32 st) hl
  have hn := nOf_le (most := most) (s1T st)
  have H := Lib.hid h
  have HE := Lib.hid hE
  have HB := Lib.hid hB
  have HQ := Lib.hid (txS_eq most st)
  have HX := Lib.hid (expect_any b 32 st w h)
  unfold ptr at *
  clear h hE hB
  go_enter Tryz.func33, Tryz.ntmps33
  go_wp2_with fail
  refine HX.out.mono ?_
  rintro e w1 ⟨rfl, hi1, hu1⟩
  have HI1 := Lib.hid hi1
  have HU1 := Lib.hid hu1
  have HN := Lib.hid (number_any b most (s1T st) w1 hi1 (env_upd HE.out HB.out hb hbw hu1) hm hl1)
  unfold ptr at HN
  clear hi1 hu1 HX
  go_wp2_with fail
  refine HN.out.mono ?_
  rintro e w2 ⟨rfl, hi2, hu2⟩
  have HI2 := Lib.hid hi2
  have HU2 := Lib.hid (HU1.out.two hu2)
  have HX2 := Lib.hid (expect_any b 58 _ w2 hi2)
  unfold ptr at HX2
  have ho2 : o2T most st = numS most (s1T st) := rfl
  rw [← ho2] at hn HX2 HI2 ⊢
  have hs3 : s3T most st = (sOf (o2T most st)).bind (expO 58) := rfl
  rw [← hs3] at HX2
  clear hi2 hu2 HN ho2 hs3
  revert hn HI2 HX2 HQ
  generalize o2T most st = o2
  generalize s3T most st = s3
  obtain ⟨n, hnn⟩ : ∃ n, n = nOf o2 := ⟨_, rfl⟩
  rw [← hnn]
  intro hn HQ HI2 HX2
  clear hnn
  go_wp2_with fail
  refine HX2.out.mono ?_
  rintro e w3 ⟨rfl, hi3, hu3⟩
  have c3 := hi3.cell0
  have f3 := hi3.free 0
  have HI3 := Lib.hid hi3
  have HU3 := Lib.hid (HU2.out.two hu3)
  have HF := Lib.hid (fail_any b s3 w3 hi3)
  unfold ptr at HF
  have hsz := ba_size (rest s3)
  clear hi3 hu3 HX2
  by_cases hlt : (rest s3).length < n
  · have hz : ((ba (rest s3)).size : Int) < (n : Int) := by omega
    go_wp2_with fail
    refine HF.out.mono ?_
    rintro e w4 ⟨rfl, hi4, hu4⟩
    have HI4 := Lib.hid hi4
    have HU4 := Lib.hid (HU3.out.two hu4)
    clear hi4 hu4
    have hq : txS most st = none := by
      rw [HQ.out]
      cases s3 with
      | none => rfl
      | some s => show (if n ≤ s.length then _ else none) = none; rw [if_neg (by have : (rest (some s)).length = s.length := rfl; omega)]
    have HQ2 := Lib.hid hq
    clear hq
    go_wp2
    go_ret
    exact ⟨by rw [HQ2.out]; rfl, by rw [HQ2.out]; exact HI4.out, HU4.out⟩
  · have hz : decide (((ba (rest s3)).size : Int) < (n : Int)) = false := decide_eq_false (by omega)
    have hz2 : (n : Int) ≤ ((ba (rest s3)).size : Int) := by omega
    have HTK := Lib.hid (ba_take (rest s3) n)
    have HDR := Lib.hid (ba_drop (rest s3) n)
    clear hsz
    go_wp2
    go_ret
    rw [HTK.out, HDR.out]
    cases s3 with
    | none =>
      have hq : txS most st = none := by rw [HQ.out]; rfl
      refine ⟨by rw [hq]; simp [rest, tOf, ba], ?_, HU3.out.setOne 0 _⟩
      rw [hq]
      have e1 : ba ((rest none).drop n) = ⟨#[]⟩ := by simp [rest, ba]
      rw [e1]
      exact HI3.out.set_none
    | some s =>
      have hq : txS most st = some (ba (s.take n), s.drop n) := by
        rw [HQ.out]
        show (if n ≤ s.length then _ else none) = _
        rw [if_pos (by have : (rest (some s)).length = s.length := rfl; omega)]
      refine ⟨by rw [hq]; rfl, ?_, HU3.out.setOne 0 _⟩
      rw [hq]
      exact HI3.out.set
end Go.Proofs.YtpghfefiifhbiaaGreatDoor
