/-
  WALK: hammerpondref.natural: the number of a text.
-/
import Derived.Test.YtpghfefiifhbiaaGreatDoorRd
import Derived.Test.YtpghfefiifhbiaaGreatDoorBlk
namespace Go.Proofs.YtpghfefiifhbiaaGreatDoor
open Go.RowKit

theorem nat_none {most : Nat} {w : Bs} (h : ∀ n, n ≤ most → w ≠ numL n) : natO most w = none := by
  unfold natO
  rw [if_neg]
  rintro ⟨h1, h2⟩
  exact h _ h2 h1.symm
theorem nat_len {most : Nat} {w : Bs} (hm : most ≤ 1000) (h : w.length < 1 ∨ 9 < w.length) : natO most w = none := nat_none fun n hn e => by
  have h1 := numL_ne n
  have h2 := numL_len (n := n) (by omega)
  rw [e] at h
  rcases h with h | h
  · exact h1 (List.eq_nil_of_length_eq_zero (by omega))
  · omega
theorem nat_zero {most : Nat} {w : Bs} (h1 : 1 < w.length) (h : (w.getD 0 0).toNat = 48) : natO most w = none := nat_none fun n hn e => by
  obtain ⟨c, l, e2, hz⟩ := numL_head n
  rw [e, e2] at h h1
  have := hz (by simpa using h)
  subst this
  simp at h1
theorem nat_char {most : Nat} {w : Bs} {k : Nat} (hk : k < w.length) (h : dg w[k] = false) : natO most w = none := nat_none fun n hn e => by
  have := numL_dg n w[k] (by rw [← e]; exact List.getElem_mem hk)
  rw [h] at this
  cases this
theorem nat_big {most : Nat} {w : Bs} (h : most < val w) : natO most w = none := nat_none fun n hn e => by
  rw [e, val_numL] at h
  omega
theorem nat_good {most : Nat} {w : Bs} (h1 : 0 < w.length) (hd : ∀ c ∈ w, dg c = true) (hz : (w.getD 0 0).toNat = 48 → ¬ 1 < w.length) (hv : val w ≤ most) : natO most w = some (val w) := by
  have e := numL_val w (fun e => by rw [e] at h1; simp at h1) hd (fun c t e hc => by
    subst e
    have := hz (by simpa using hc)
    cases t with
    | nil => rfl
    | cons x t => simp at this)
  unfold natO
  rw [if_pos ⟨e, hv⟩]
theorem val_lt : ∀ {l : Bs}, (∀ c ∈ l, dg c = true) → val l < 10 ^ l.length := by
  intro l
  induction hn : l.length generalizing l with
  | zero => intro _; rw [List.eq_nil_of_length_eq_zero hn]; show 0 < 1; omega
  | succ k ih =>
    intro hd
    rcases List.eq_nil_or_concat l with rfl | ⟨m, x, rfl⟩
    · simp at hn
    · rw [List.concat_eq_append] at hn hd ⊢
      have hx := dg_iff.1 (hd x (by simp))
      have := ih (l := m) (by simpa using hn) (fun c hc => hd c (by simp [hc]))
      rw [val, valF_app, valF_cons, valF_nil, Nat.pow_succ]
      have e : valF 0 m = val m := rfl
      rw [e]
      omega
theorem val_take {l : Bs} {k : Nat} (hk : k < l.length) : val (l.take (k + 1)) = val (l.take k) * 10 + (l[k].toNat - 48) := by
  rw [List.take_succ_eq_append_getElem hk, val, valF_app, valF_cons, valF_nil]
def NaRel (s : ByteArray) (v5 v6 : Value) : Prop := ∃ k : Nat, k ≤ s.size ∧ v6 = .int .i64 k ∧ v5 = .int .i64 (val (s.data.toList.take k)) ∧ ∀ c ∈ s.data.toList.take k, dg c = true
def naV (o : Option Nat) : Int := match o with
  | some n => n
  | none => -1
theorem pow_le9 {k : Nat} (h : k ≤ 9) : 10 ^ k ≤ 1000000000 := by
  have : 10 ^ k ≤ 10 ^ 9 := Nat.pow_le_pow_right (by omega) h
  omega

set_option maxHeartbeats 2000000 in
set_option maxRecDepth 100000 in
theorem natural_any (s : ByteArray) (most : Nat) (w : World) (hm : most ≤ 1000) (hs : s.size ≤ 1000000) :
    Calls Tryz.prog 50 #[.string s, .int .i64 most] w fun e w' => e = .returned (.int .i64 (naV (natO most s.data.toList))) ∧ w = w' := by
  obtain ⟨r, hr⟩ : ∃ r, r = naV (natO most s.data.toList) := ⟨_, rfl⟩
  rw [← hr]
  have HR := Lib.hid hr
  have hl : s.data.toList.length = s.size := by simp
  have HL := Lib.hid hl
  clear hr hl
  by_cases h1 : s.size < 1
  · have d1 : (s.size : Int) < 1 := by omega
    have H1 := Lib.hid (HR.out.trans (by rw [nat_len hm (.inl (by rw [HL.out]; exact h1))]))
    go_enter Tryz.func50, Tryz.ntmps50
    go_wp2
    go_ret
    exact ⟨by rw [H1.out]; rfl, rfl⟩
  have d1 : decide ((s.size : Int) < 1) = false := decide_eq_false (by omega)
  by_cases h9 : 9 < s.size
  · have d9 : (9 : Int) < (s.size : Int) := by omega
    have H1 := Lib.hid (HR.out.trans (by rw [nat_len hm (.inr (by rw [HL.out]; exact h9))]))
    go_enter Tryz.func50, Tryz.ntmps50
    go_wp2
    go_ret
    exact ⟨by rw [H1.out]; rfl, rfl⟩
  have d9 : decide ((9 : Int) < (s.size : Int)) = false := decide_eq_false (by omega)
  have h0s : 0 < s.size := by omega
  have hg0 : s.data.toList.getD 0 0 = s[0] := by
    rw [List.getD_eq_getElem?_getD, List.getElem?_eq_getElem (by rw [HL.out]; exact h0s)]; rfl
  have HG0 := Lib.hid hg0
  clear hg0
  -- the walk behind the first test
  have main : ((s[0].toNat : Int) = 48 → ¬ 1 < s.size) → Calls Tryz.prog 50 #[.string s, .int .i64 most] w fun e w' => e = .returned (.int .i64 r) ∧ w = w' := by
    intro hz
    have HZ := Lib.hid hz
    have hn0 : (0 : Nat) < s.size := h0s
    by_cases hc : (s[0].toNat : Int) = 48
    · have hb0 : ((s[0].toNat : Int) == 48) = true := by rw [hc]; rfl
      have d2 : decide ((1 : Int) < (s.size : Int)) = false := decide_eq_false (by have := hz hc; omega)
      have HC := Lib.hid hc
      clear hc hz
      go_enter Tryz.func50, Tryz.ntmps50
      go_wp2
      go_loop [5, 6] (fun v5 v6 => NaRel s v5 v6) (fun _ v6 => s.size - (intOf v6).toNat)
      case atStart => exact ⟨0, Nat.zero_le _, rfl, rfl, by simp⟩
      case round =>
        obtain ⟨k, hk, rfl, rfl, hdd⟩ := hrel
        have HDD := Lib.hid hdd
        have hv := val_lt hdd
        have htl : (s.data.toList.take k).length = k := by rw [List.length_take, HL.out]; omega
        rw [htl] at hv
        have hp := pow_le9 (k := k) (by omega)
        obtain ⟨v, hv0⟩ : ∃ v, v = val (s.data.toList.take k) := ⟨_, rfl⟩
        rw [← hv0] at hv ⊢
        have hv9 : v < 1000000000 := by omega
        have HV := Lib.hid hv0
        clear hdd hv hp htl hv0
        by_cases hlt : k < s.size
        · have hiz : (k : Int) < (s.size : Int) := by omega
          have hll : k < s.data.toList.length := by rw [HL.out]; exact hlt
          have hgk : s.data.toList[k] = s[k] := rfl
          by_cases hd : 48 ≤ s[k].toNat ∧ s[k].toNat ≤ 57
          · have t1 : decide ((s[k].toNat : Int) < 48) = false := decide_eq_false (by omega)
            have t2 : decide ((57 : Int) < (s[k].toNat : Int)) = false := decide_eq_false (by omega)
            have t3 : (48 : Int) ≤ (s[k].toNat : Int) := by omega
            have t4 : (s[k].toNat : Int) ≤ 57 := by omega
            have HVT := Lib.hid ((val_take hll).trans (by rw [← HV.out, hgk]))
            have HD2 := Lib.hid (show ∀ c ∈ s.data.toList.take (k + 1), dg c = true from fun c hc => by
              rw [List.take_succ_eq_append_getElem hll, List.mem_append, List.mem_singleton] at hc
              rcases hc with hc | hc
              · exact HDD.out c hc
              · rw [hc, hgk]; exact dg_iff.2 hd)
            clear hd hgk
            go_wp2
            go_round
            case rel => exact ⟨k + 1, by omega, by go_num, by rw [HVT.out]; go_num, HD2.out⟩
            case measure => simp [intOf]; omega
          · have H1 := Lib.hid (HR.out.trans (by rw [nat_char hll (by rw [hgk]; cases h : dg s[k] with | false => rfl | true => exact absurd (dg_iff.1 h) hd)]))
            by_cases hd1 : s[k].toNat < 48
            · have t1 : (s[k].toNat : Int) < 48 := by omega
              clear hd hgk
              go_wp2
              go_ret
              exact ⟨by rw [H1.out]; rfl, rfl⟩
            · have t1 : decide ((s[k].toNat : Int) < 48) = false := decide_eq_false (by omega)
              have t2 : (57 : Int) < (s[k].toNat : Int) := by omega
              clear hd hgk
              go_wp2
              go_ret
              exact ⟨by rw [H1.out]; rfl, rfl⟩
        · obtain rfl : k = s.size := by omega
          have hfull : s.data.toList.take s.size = s.data.toList := List.take_of_length_le (by rw [HL.out]; exact Nat.le_refl _)
          have hve : v = val s.data.toList := by rw [HV.out, hfull]
          have hdf := HDD.out
          rw [hfull] at hdf
          by_cases hb : most < v
          · have tb : (most : Int) < (v : Int) := by omega
            have H1 := Lib.hid (HR.out.trans (by rw [nat_big (by rw [← hve]; exact hb)]))
            clear hfull hve hdf
            go_wp2
            go_ret
            exact ⟨by rw [H1.out]; rfl, rfl⟩
          · have tb : decide ((most : Int) < (v : Int)) = false := decide_eq_false (by omega)
            have H1 := Lib.hid (HR.out.trans (show _ = (v : Int) by
              rw [nat_good (by rw [HL.out]; exact h0s) hdf (fun h => by rw [HL.out]; exact HZ.out (by rw [HG0.out] at h; omega)) (by rw [← hve]; omega), ← hve]; rfl))
            clear hfull hve hdf
            go_wp2
            go_ret
            exact ⟨by rw [H1.out]; rfl, rfl⟩
    · have hb0 : ((s[0].toNat : Int) == 48) = false := by rw [beq_eq_false_iff_ne]; exact hc
      have HC := Lib.hid hc
      clear hc hz
      go_enter Tryz.func50, Tryz.ntmps50
      go_wp2
      go_loop [5, 6] (fun v5 v6 => NaRel s v5 v6) (fun _ v6 => s.size - (intOf v6).toNat)
      case atStart => exact ⟨0, Nat.zero_le _, rfl, rfl, by simp⟩
      case round =>
        obtain ⟨k, hk, rfl, rfl, hdd⟩ := hrel
        have HDD := Lib.hid hdd
        have hv := val_lt hdd
        have htl : (s.data.toList.take k).length = k := by rw [List.length_take, HL.out]; omega
        rw [htl] at hv
        have hp := pow_le9 (k := k) (by omega)
        obtain ⟨v, hv0⟩ : ∃ v, v = val (s.data.toList.take k) := ⟨_, rfl⟩
        rw [← hv0] at hv ⊢
        have hv9 : v < 1000000000 := by omega
        have HV := Lib.hid hv0
        clear hdd hv hp htl hv0
        by_cases hlt : k < s.size
        · have hiz : (k : Int) < (s.size : Int) := by omega
          have hll : k < s.data.toList.length := by rw [HL.out]; exact hlt
          have hgk : s.data.toList[k] = s[k] := rfl
          by_cases hd : 48 ≤ s[k].toNat ∧ s[k].toNat ≤ 57
          · have t1 : decide ((s[k].toNat : Int) < 48) = false := decide_eq_false (by omega)
            have t2 : decide ((57 : Int) < (s[k].toNat : Int)) = false := decide_eq_false (by omega)
            have t3 : (48 : Int) ≤ (s[k].toNat : Int) := by omega
            have t4 : (s[k].toNat : Int) ≤ 57 := by omega
            have HVT := Lib.hid ((val_take hll).trans (by rw [← HV.out, hgk]))
            have HD2 := Lib.hid (show ∀ c ∈ s.data.toList.take (k + 1), dg c = true from fun c hc => by
              rw [List.take_succ_eq_append_getElem hll, List.mem_append, List.mem_singleton] at hc
              rcases hc with hc | hc
              · exact HDD.out c hc
              · rw [hc, hgk]; exact dg_iff.2 hd)
            clear hd hgk
            go_wp2
            go_round
            case rel => exact ⟨k + 1, by omega, by go_num, by rw [HVT.out]; go_num, HD2.out⟩
            case measure => simp [intOf]; omega
          · have H1 := Lib.hid (HR.out.trans (by rw [nat_char hll (by rw [hgk]; cases h : dg s[k] with | false => rfl | true => exact absurd (dg_iff.1 h) hd)]))
            by_cases hd1 : s[k].toNat < 48
            · have t1 : (s[k].toNat : Int) < 48 := by omega
              clear hd hgk
              go_wp2
              go_ret
              exact ⟨by rw [H1.out]; rfl, rfl⟩
            · have t1 : decide ((s[k].toNat : Int) < 48) = false := decide_eq_false (by omega)
              have t2 : (57 : Int) < (s[k].toNat : Int) := by omega
              clear hd hgk
              go_wp2
              go_ret
              exact ⟨by rw [H1.out]; rfl, rfl⟩
        · obtain rfl : k = s.size := by omega
          have hfull : s.data.toList.take s.size = s.data.toList := List.take_of_length_le (by rw [HL.out]; exact Nat.le_refl _)
          have hve : v = val s.data.toList := by rw [HV.out, hfull]
          have hdf := HDD.out
          rw [hfull] at hdf
          by_cases hb : most < v
          · have tb : (most : Int) < (v : Int) := by omega
            have H1 := Lib.hid (HR.out.trans (by rw [nat_big (by rw [← hve]; exact hb)]))
            clear hfull hve hdf
            go_wp2
            go_ret
            exact ⟨by rw [H1.out]; rfl, rfl⟩
          · have tb : decide ((most : Int) < (v : Int)) = false := decide_eq_false (by omega)
            have H1 := Lib.hid (HR.out.trans (show _ = (v : Int) by
              rw [nat_good (by rw [HL.out]; exact h0s) hdf (fun h => by rw [HL.out]; exact HZ.out (by rw [HG0.out] at h; omega)) (by rw [← hve]; omega), ← hve]; rfl))
            clear hfull hve hdf
            go_wp2
            go_ret
            exact ⟨by rw [H1.out]; rfl, rfl⟩
  by_cases hc : (s[0].toNat : Int) = 48
  · by_cases h2 : 1 < s.size
    · have hb0 : ((s[0].toNat : Int) == 48) = true := by rw [hc]; rfl
      have d2 : (1 : Int) < (s.size : Int) := by omega
      have H1 := Lib.hid (HR.out.trans (by rw [nat_zero (by rw [HL.out]; exact h2) (by rw [HG0.out]; omega)]))
      clear hc main
      go_enter Tryz.func50, Tryz.ntmps50
      go_wp2
      go_ret
      exact ⟨by rw [H1.out]; rfl, rfl⟩
    · exact main (fun _ => h2)
  · exact main (fun h => absurd h hc)
end Go.Proofs.YtpghfefiifhbiaaGreatDoor
