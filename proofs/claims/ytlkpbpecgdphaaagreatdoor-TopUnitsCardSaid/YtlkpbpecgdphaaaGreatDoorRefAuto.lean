/-
  WALK: the document's Auto (hammerpondref.Auto).
-/
import Derived.Test.YtlkpbpecgdphaaaGreatDoorName
namespace Go.Proofs.YtlkpbpecgdphaaaGreatDoor
open Go.RowKit

theorem joinB_snoc (l : List ByteArray) (x : ByteArray) : joinB (l ++ [x]) = if l = [] then x.data.toList else joinB l ++ 32 :: x.data.toList := by
  unfold joinB
  rcases l with _ | ⟨a, r⟩
  · simp [Lib.join_one]
  · rw [if_neg (by simp)]
    simp only [List.cons_append, List.map_cons, List.map_append, List.map_nil, Lib.join_cons]
    unfold Lib.joinTail
    simp
theorem joinB_step {l : List ByteArray} {m : Nat} {x : ByteArray} (h : l[m]? = some x) : joinB (l.take (m + 1)) = if m = 0 then x.data.toList else joinB (l.take m) ++ 32 :: x.data.toList := by
  have hm : m < l.length := (List.getElem?_eq_some_iff.1 h).1
  have e : l.take (m + 1) = l.take m ++ [x] := by
    rw [List.take_add_one, h]; rfl
  rw [e, joinB_snoc]
  by_cases h0 : m = 0
  · subst h0; simp
  · rw [if_neg h0, if_neg]
    intro hn
    rcases List.take_eq_nil_iff.1 hn with e | e
    · exact h0 e
    · rw [e] at hm; simp at hm
theorem joinB_mono (l : List ByteArray) (m d : Nat) : (joinB (l.take m)).length ≤ (joinB (l.take (m + d))).length := by
  induction d with
  | zero => exact Nat.le_refl _
  | succ d ih =>
    refine Nat.le_trans ih ?_
    rw [← Nat.add_assoc]
    cases hx : l[m + d]? with
    | none =>
      have hlen : l.length ≤ m + d := List.getElem?_eq_none_iff.1 hx
      rw [List.take_of_length_le hlen, List.take_of_length_le (by omega)]
      exact Nat.le_refl _
    | some x =>
      rw [joinB_step hx]
      split
      · rename_i e; rw [e]; simp [joinB, Lib.join_nil]
      · simp
theorem joinB_le (l : List ByteArray) (m : Nat) : (joinB (l.take m)).length ≤ (joinB l).length := by
  have := joinB_mono l m l.length
  rwa [List.take_of_length_le (l := l) (i := m + l.length) (by omega)] at this
theorem two_eq (s : ByteArray) (k : Nat) (h : k + 1 < s.size) (c : UInt8) : ((s.extract k (k + 2)).toList == [36, c]) = (decide (s[k] = 36) && decide (s[k + 1] = c)) := by
  rw [ByteArray.toList_eq, Lib.extract_data]
  have e : (s.data.toList.drop k).take (k + 2 - k) = [s[k], s[k + 1]] := by
    rw [show k + 2 - k = 2 by omega, List.drop_eq_getElem_cons (by simpa using (show k < s.size by omega)), List.drop_eq_getElem_cons (by simpa using h)]
    rfl
  rw [e]
  simp [Bool.and_comm]
  rfl
theorem one_data (s : ByteArray) (k : Nat) (h : k < s.size) : (s.extract k (k + 1)).data.toList = [s[k]] := by
  rw [Lib.extract_data, show k + 1 - k = 1 by omega, List.drop_eq_getElem_cons (by simpa using h)]
  rfl
theorem look2_at (v0 v1 v2 v3 s : ByteArray) (k : Nat) (h : k + 1 < s.size) : look2 v0 v1 v2 v3 (s.data.toList.drop k) = if s[k] = 36 then autoV v0 v1 v2 v3 s[k + 1] else none := by
  rw [List.drop_eq_getElem_cons (by simpa using (show k < s.size by omega)), List.drop_eq_getElem_cons (by simpa using h)]
  rfl
theorem look2_end (v0 v1 v2 v3 s : ByteArray) (k : Nat) (h : k + 1 = s.size) : look2 v0 v1 v2 v3 (s.data.toList.drop k) = none := by
  rw [List.drop_eq_getElem_cons (by simpa using (show k < s.size by omega)), List.drop_of_length_le (by simp; omega)]
  rfl
/-- Where the document's Auto stands. -/
def RaRel (v0 v1 v2 v3 s : ByteArray) (o i : Value) : Prop := ∃ (k : Nat) (t : ByteArray), k ≤ s.size ∧ i = .int .i64 k ∧ o = .string t ∧ t.data.toList ++ autoL v0 v1 v2 v3 (s.data.toList.drop k) = autoL v0 v1 v2 v3 s.data.toList
theorem RaRel.skip {v0 v1 v2 v3 s t : ByteArray} {k : Nat} (hk : k < s.size) (h : t.data.toList ++ autoL v0 v1 v2 v3 (s.data.toList.drop k) = autoL v0 v1 v2 v3 s.data.toList) (hn : look2 v0 v1 v2 v3 (s.data.toList.drop k) = none) :
    (t ++ s.extract k (k + 1)).data.toList ++ autoL v0 v1 v2 v3 (s.data.toList.drop (k + 1)) = autoL v0 v1 v2 v3 s.data.toList := by
  have hd : s.data.toList.drop k = s.data.toList[k]'(by simpa using hk) :: s.data.toList.drop (k + 1) := List.drop_eq_getElem_cons (by simpa using hk)
  rw [autoL_none v0 v1 v2 v3 hd hn] at h
  rw [data_append, one_data s k hk, ← h]
  simp
  rfl
theorem RaRel.hit {v0 v1 v2 v3 s t v : ByteArray} {k : Nat} (h : t.data.toList ++ autoL v0 v1 v2 v3 (s.data.toList.drop k) = autoL v0 v1 v2 v3 s.data.toList) (hn : look2 v0 v1 v2 v3 (s.data.toList.drop k) = some v) :
    (t ++ v).data.toList ++ autoL v0 v1 v2 v3 (s.data.toList.drop (k + 2)) = autoL v0 v1 v2 v3 s.data.toList := by
  obtain ⟨b, c, r, e1, e2⟩ := autoL_some v0 v1 v2 v3 hn
  have hr : s.data.toList.drop (k + 2) = r := by rw [← List.drop_drop, e1]; rfl
  rw [e2] at h
  rw [data_append, hr, ← h]
  simp
theorem RaRel.bound {v0 v1 v2 v3 s t : ByteArray} {k : Nat} (h : t.data.toList ++ autoL v0 v1 v2 v3 (s.data.toList.drop k) = autoL v0 v1 v2 v3 s.data.toList) (hl : (autoL v0 v1 v2 v3 s.data.toList).length ≤ 1000000000) : t.size ≤ 1000000000 := by
  have : t.data.toList.length ≤ (autoL v0 v1 v2 v3 s.data.toList).length := by rw [← h]; simp
  have e : t.data.toList.length = t.size := by simp
  omega
def JnRel (l : List ByteArray) (n : Nat) (x j : Value) : Prop := ∃ (m : Nat) (y : ByteArray), m ≤ n ∧ j = .int .i64 m ∧ x = .string y ∧ y.data.toList = joinB (l.take m)

set_option maxRecDepth 100000 in
set_option maxHeartbeats 3200000 in
theorem refAuto_any (s stem : ByteArray) (At An : Option Addr) (nt ct nn cn : Nat) (lt ln : List ByteArray) (w : World) (ht : RdS w w.heap.size At nt ct lt) (hn : RdS w w.heap.size An nn cn ln)
    (hnt : 1 ≤ nt) (hnn : nn ≤ 1000000) (hs : s.size ≤ 1000000) (hj : (joinB ln).length ≤ 1000000) (hLen : (autoT s lt ln stem).length ≤ 1000000000) :
    Calls Tryz.prog 134 #[.string s, .slice At nt ct, .slice An nn cn, .string stem] w fun e w' => e = .returned (.string (ba (autoT s lt ln stem))) ∧ w = w' := by
  have HN := Lib.hid hn
  obtain ⟨x0, r0, rfl⟩ : ∃ x r, lt = x :: r := by
    rcases lt with _ | ⟨x, r⟩
    · have := ht.1; simp at this; omega
    · exact ⟨x, r, rfl⟩
  obtain ⟨b0, off0, rfl, _, hc0⟩ := ht.at_ (i := 0) (f := x0) rfl
  have hc0 : w.cell? ⟨b0, off0, none⟩ = some (.string x0) := hc0
  have hp0 : (0 : Int) < (nt : Int) := by omega
  have hv0 : headT (x0 :: r0) = x0 := rfl
  unfold autoT at hLen ⊢
  rw [hv0] at hLen ⊢
  clear ht hn hv0
  obtain ⟨v1, hv1⟩ : ∃ v1, headT ln = v1 := ⟨_, rfl⟩
  obtain ⟨v2, hv2⟩ : ∃ v2, ba (joinB ln) = v2 := ⟨_, rfl⟩
  rw [hv1, hv2] at hLen ⊢
  have HV1 := Lib.hid hv1
  have HV2 := Lib.hid hv2
  clear hv1 hv2
  go_enter Tryz.func134, Tryz.ntmps134
  go_wp2
  go_loop [9, 10] (fun o i => RaRel x0 v1 v2 stem s o i) (fun _ i => s.size - (intOf i).toNat)
  case atStart => exact ⟨0, ⟨#[]⟩, Nat.zero_le _, rfl, rfl, rfl⟩
  case round =>
    obtain ⟨k, t, hk, rfl, rfl, hin⟩ := hrel
    have HI := Lib.hid hin
    clear hin
    by_cases hlt : k < s.size
    · by_cases h1 : k + 1 < s.size
      · have hL := look2_at x0 v1 v2 stem s k h1
        have p1 := two_eq s k h1 64
        have p2 := two_eq s k h1 60
        have p3 := two_eq s k h1 94
        have p4 := two_eq s k h1 42
        have hbt := RaRel.bound HI.out hLen
        by_cases ha : s[k] = 36
        · rw [if_pos ha] at hL
          simp only [ha, decide_true, Bool.true_and] at p1 p2 p3 p4
          by_cases hb1 : s[k + 1] = 64
          · have HNX := Lib.hid (RaRel.hit (v := x0) HI.out (by rw [hL, hb1]; rfl))
            have hbd := RaRel.bound HNX.out hLen
            rw [ByteArray.size_append] at hbd
            have q1 : ((s.extract k (k + 2)).toList == [36, 64]) = true := by rw [p1, hb1]; rfl
            clear hL p1 p2 p3 p4 ha hb1
            go_wp2
            go_round
            case rel => exact ⟨k + 2, t ++ x0, by omega, by go_num, rfl, HNX.out⟩
            case measure => simp [intOf]; omega
          · have q1 : ((s.extract k (k + 2)).toList == [36, 64]) = false := by rw [p1, decide_eq_false hb1]
            clear p1
            by_cases hb2 : s[k + 1] = 60
            · have q2 : ((s.extract k (k + 2)).toList == [36, 60]) = true := by rw [p2, hb2]; rfl
              have HNX := Lib.hid (RaRel.hit (v := v1) HI.out (by rw [hL, hb2]; rfl))
              have hbd := RaRel.bound HNX.out hLen
              rw [ByteArray.size_append] at hbd
              clear hL p2 p3 p4 ha hb1 hb2
              by_cases h0 : nn = 0
              · have e1 : v1 = ⟨#[]⟩ := by
                  have hl := HN.out.1
                  have : ln = [] := List.eq_nil_of_length_eq_zero (by omega)
                  rw [← HV1.out, this]
                  rfl
                have HE := Lib.hid e1
                have hz : decide ((0 : Int) < (nn : Int)) = false := decide_eq_false (by omega)
                have hz2 : decide (0 < nn) = false := decide_eq_false (by omega)
                clear h0 e1
                go_wp2
                go_round
                case rel => exact ⟨k + 2, t ++ ⟨#[]⟩, by omega, by go_num, rfl, by have := HNX.out; rwa [show t ++ v1 = t ++ ⟨#[]⟩ by rw [HE.out]] at this⟩
                case measure => simp [intOf]; omega
              · obtain ⟨y, r1, hy⟩ : ∃ y r, ln = y :: r := by
                  rcases ln with _ | ⟨y, r⟩
                  · have := HN.out.1; simp at this; omega
                  · exact ⟨y, r, rfl⟩
                have hy0 : ln[0]? = some y := by rw [hy]; rfl
                have e1 : v1 = y := by rw [← HV1.out, hy]; rfl
                obtain ⟨b1, off1, rfl, _, hc1⟩ := HN.out.at_ hy0
                have hc1 : w.cell? ⟨b1, off1, none⟩ = some (.string y) := hc1
                have hz : (0 : Int) < (nn : Int) := by omega
                have hz2 : 0 < nn := by omega
                have HE := Lib.hid e1
                rw [e1] at hbd
                clear h0 e1 hy hy0
                go_wp2
                go_round
                case rel => exact ⟨k + 2, t ++ y, by omega, by go_num, rfl, by have := HNX.out; rwa [show t ++ v1 = t ++ y by rw [HE.out]] at this⟩
                case measure => simp [intOf]; omega
            · have q2 : ((s.extract k (k + 2)).toList == [36, 60]) = false := by rw [p2, decide_eq_false hb2]
              clear p2
              by_cases hb3 : s[k + 1] = 94
              · have q3 : ((s.extract k (k + 2)).toList == [36, 94]) = true := by rw [p3, hb3]; rfl
                have HNX := Lib.hid (RaRel.hit (v := v2) HI.out (by rw [hL, hb3]; rfl))
                have hbd := RaRel.bound HNX.out hLen
                rw [ByteArray.size_append] at hbd
                clear hL p3 p4 ha hb1 hb2 hb3
                go_wp2
                go_loop [12, 13] (fun x j => JnRel ln nn x j) (fun _ j => nn - (intOf j).toNat)
                case atStart => exact ⟨0, ⟨#[]⟩, Nat.zero_le _, rfl, rfl, rfl⟩
                case round =>
                  obtain ⟨m, y, hm, rfl, rfl, hy⟩ := hrel
                  have hys : y.size ≤ 1000000 := by
                    have e : y.data.toList.length = y.size := by simp
                    have := joinB_le ln m
                    rw [← hy] at this
                    omega
                  by_cases hlm : m < nn
                  · obtain ⟨x, hx⟩ : ∃ x, ln[m]? = some x := ⟨ln[m]'(by have := HN.out.1; omega), List.getElem?_eq_getElem _⟩
                    obtain ⟨b1, off1, rfl, _, hc1⟩ := HN.out.at_ hx
                    have hst := joinB_step hx
                    have hxs : (joinB (ln.take (m + 1))).length ≤ 1000000 := Nat.le_trans (joinB_le ln (m + 1)) hj
                    have hxz : x.size ≤ 1000000 := by
                      have e : x.data.toList.length = x.size := by simp
                      rw [hst] at hxs
                      split at hxs
                      · omega
                      · simp at hxs e; omega
                    by_cases h0 : m = 0
                    · subst h0
                      have HS := Lib.hid (show (y ++ x).data.toList = joinB (ln.take 1) by
                        have : y.data.toList = [] := hy
                        rw [data_append, this, hst]; rfl)
                      clear hst hxs hy hx
                      have hc1 : w.cell? ⟨b1, off1, none⟩ = some (.string x) := hc1
                      go_wp2
                      go_round
                      case rel => exact ⟨1, y ++ x, by omega, by go_num, rfl, HS.out⟩
                      case measure => simp [intOf]; omega
                    · have HS := Lib.hid (show (y ++ ⟨#[32]⟩ ++ x).data.toList = joinB (ln.take (m + 1)) by
                        rw [data_append, data_append, hy, hst, if_neg h0]; simp)
                      have hz : (0 : Int) < (m : Int) := by omega
                      have hz2 : 0 < m := by omega
                      clear hst hxs hy hx h0
                      go_wp2
                      go_round
                      case rel => exact ⟨m + 1, y ++ ⟨#[32]⟩ ++ x, by omega, by go_num, rfl, HS.out⟩
                      case measure => simp [intOf]; omega
                  · have e1 : v2 = y := by
                      rw [← HV2.out, ← ba_of y, hy, List.take_of_length_le (by have := HN.out.1; omega)]
                    have HE := Lib.hid e1
                    rw [e1] at hbd
                    clear e1 hy
                    go_wp2
                    go_round
                    case rel => exact ⟨k + 2, t ++ y, by omega, by go_num, rfl, by have := HNX.out; rwa [show t ++ v2 = t ++ y by rw [HE.out]] at this⟩
                    case measure => simp [intOf]; omega
              · have q3 : ((s.extract k (k + 2)).toList == [36, 94]) = false := by rw [p3, decide_eq_false hb3]
                clear p3
                by_cases hb4 : s[k + 1] = 42
                · have q4 : ((s.extract k (k + 2)).toList == [36, 42]) = true := by rw [p4, hb4]; rfl
                  have HNX := Lib.hid (RaRel.hit (v := stem) HI.out (by rw [hL, hb4]; rfl))
                  have hbd := RaRel.bound HNX.out hLen
                  rw [ByteArray.size_append] at hbd
                  clear hL p4 ha hb1 hb2 hb3 hb4
                  go_wp2
                  go_round
                  case rel => exact ⟨k + 2, t ++ stem, by omega, by go_num, rfl, HNX.out⟩
                  case measure => simp [intOf]; omega
                · have q4 : ((s.extract k (k + 2)).toList == [36, 42]) = false := by rw [p4, decide_eq_false hb4]
                  have HNX := Lib.hid (RaRel.skip hlt HI.out (by rw [hL]; unfold autoV; rw [if_neg hb1, if_neg hb2, if_neg hb3, if_neg hb4]))
                  clear hL p4 ha hb1 hb2 hb3 hb4
                  go_wp2
                  go_round
                  case rel => exact ⟨k + 1, t ++ s.extract k (k + 1), by omega, by go_num, rfl, HNX.out⟩
                  case measure => simp [intOf]; omega
        · have HNX := Lib.hid (RaRel.skip hlt HI.out (by rw [hL, if_neg ha]))
          simp only [decide_eq_false ha, Bool.false_and] at p1 p2 p3 p4
          clear hL ha
          go_wp2
          go_round
          case rel => exact ⟨k + 1, t ++ s.extract k (k + 1), by omega, by go_num, rfl, HNX.out⟩
          case measure => simp [intOf]; omega
      · have HNX := Lib.hid (RaRel.skip hlt HI.out (look2_end _ _ _ _ s k (by omega)))
        have hbt := RaRel.bound HI.out hLen
        have hd : decide ((k : Int) + 1 < (s.size : Int)) = false := decide_eq_false (by omega)
        go_wp2
        go_round
        case rel => exact ⟨k + 1, t ++ s.extract k (k + 1), by omega, by go_num, rfl, HNX.out⟩
        case measure => simp [intOf]; omega
    · have hk2 : k = s.size := by omega
      have HF := Lib.hid (show ba (autoL x0 v1 v2 stem s.data.toList) = t by
        have := HI.out
        rw [List.drop_of_length_le (by simp; omega)] at this
        rw [← this]
        simp [autoL, ba])
      clear hk2
      go_wp2
      go_ret
      exact ⟨by rw [HF.out]; rfl, rfl⟩
end Go.Proofs.YtlkpbpecgdphaaaGreatDoor
