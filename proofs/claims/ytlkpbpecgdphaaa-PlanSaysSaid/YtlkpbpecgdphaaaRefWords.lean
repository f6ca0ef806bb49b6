/-
  WALKS: hammerpondref.fields (the words of a text) and once (the first '%' by another text).
-/
import Derived.Test.YtlkpbpecgdphaaaSet
import Derived.Test.YtlkpbpecgdphaaaSpn
import Derived.Test.YtlkpbpecgdphaaaExpText
namespace Go.Proofs.Ytlkpbpecgdphaaa
open Go.RowKit

def SnAt (s : ByteArray) (k fr : Nat) (out : List ByteArray) : Prop := fr ≤ k ∧ spn (s.data.toList.take k) = out.map (·.data.toList) ++ [(s.data.toList.take k).drop fr]
theorem SnAt.start (s : ByteArray) : SnAt s 0 0 [] := ⟨Nat.le_refl _, by simp [spn]⟩
theorem SnAt.blank {s : ByteArray} {k fr : Nat} {out : List ByteArray} (h : SnAt s k fr out) (hk : k < s.size) (hb : s[k] = 10) : SnAt s (k + 1) (k + 1) (out ++ [s.extract fr k]) := by
  refine ⟨Nat.le_refl _, ?_⟩
  rw [take_byte s k hk, spn_snoc _ _ _ _ h.2, if_pos hb, List.map_append]
  have e : (s.data.toList.take k ++ [s[k]]).drop (k + 1) = [] := List.drop_eq_nil_of_le (by simp; omega)
  rw [e]
  simp [List.drop_take]
theorem SnAt.other {s : ByteArray} {k fr : Nat} {out : List ByteArray} (h : SnAt s k fr out) (hk : k < s.size) (hb : s[k] ≠ 10) : SnAt s (k + 1) fr out := by
  refine ⟨by have := h.1; omega, ?_⟩
  rw [take_byte s k hk, spn_snoc _ _ _ _ h.2, if_neg hb]
  have h1 := h.1
  have hl : k ≤ s.data.toList.length := by simpa using Nat.le_of_lt hk
  rw [List.drop_append_of_le_length (by rw [List.length_take]; omega)]
theorem SnAt.last {s : ByteArray} {fr : Nat} {out : List ByteArray} (h : SnAt s s.size fr out) : out ++ [s.extract fr s.size] = lines s := by
  apply of_data
  have hs : s.data.toList.take s.size = s.data.toList := List.take_of_length_le (by simp)
  rw [lines_data, ← hs, h.2, List.map_append]
  simp [List.drop_take]
theorem spn_len (l : List UInt8) : (spn l).length ≤ l.length + 1 := by
  induction l with
  | nil => simp [spn]
  | cons b l ih =>
    unfold spn
    split
    · simp; omega
    · split
      · simp
      · rename_i e; rw [e] at ih; simp at ih ⊢; omega
theorem SnAt.len {s : ByteArray} {k fr : Nat} {out : List ByteArray} (h : SnAt s k fr out) : out.length ≤ k := by
  have h1 := spn_len (s.data.toList.take k)
  rw [h.2] at h1
  simp at h1
  have : (s.data.toList.take k).length ≤ k := List.length_take_le _ _
  simp at this
  omega
theorem byteN_ne {b : UInt8} (h : ((b.toNat : Int) == 10) = false) : b ≠ 10 := by rintro rfl; simp at h
theorem byteN_eq {b : UInt8} (h : ((b.toNat : Int) == 10) = true) : b = 10 := by
  have h' : (b.toNat : Int) = 10 := by simpa using h
  exact UInt8.toNat_inj.1 (by have : (10 : UInt8).toNat = 10 := rfl; omega)
structure SnRel (w : World) (s : ByteArray) (v f i : Value) (wr : World) : Prop where
  ex : ∃ (k fr : Nat) (out : List ByteArray), k ≤ s.size ∧ i = .int .i64 k ∧ f = .int .i64 fr ∧ SnAt s k fr out ∧ wr.ownsRow w.heap.size 9 1 v out.length (tcells out) ∧ Below w.heap.size w wr

set_option maxHeartbeats 2000000 in
set_option maxRecDepth 100000 in
theorem refSplitN_any (s : ByteArray) (w : World) (hs : s.size ≤ 100000) :
    Calls Try.prog 18 #[.string s, .int .u8 10] w fun e w' => ∃ v, e = .returned v ∧ w'.ownsRow w.heap.size 9 1 v (lines s).length (tcells (lines s)) ∧ Below w.heap.size w w' := by
  obtain ⟨i, hi, hz, hsz, hby⟩ := text_parts
  have HI := Lib.hid hi
  have HZ := Lib.hid hz
  have HS := Lib.hid hsz
  have HB := Lib.hid hby
  clear hi hz hsz hby
  go_enter Try.func18, Try.ntmps18
  go_wp2
  go_loopw [5, 6, 7] (fun v f j wr => SnRel w s v f j wr) (fun _ _ j _ => s.size - (intOf j).toNat)
  case atStart => exact ⟨0, 0, [], Nat.zero_le _, rfl, rfl, SnAt.start s, World.ownsRow_nil _ _ _ _, Below.refl _ _⟩
  case round =>
    obtain ⟨k, fr, out, hk, rfl, rfl, hat, hown, hb⟩ := hrel.ex
    clear hrel
    have hfk := hat.1
    have hol := hat.len
    have HA := Lib.hid hat
    have HO := Lib.hid hown
    clear hat hown
    by_cases hlt : k < s.size
    · have hkz : (k : Int) < (s.size : Int) := by omega
      cases hq : ((s[k].toNat : Int) == 10) with
      | false =>
        have HN := Lib.hid (HA.out.other hlt (byteN_ne hq))
        go_wp2
        go_roundw
        case rel => exact ⟨k + 1, fr, out, by omega, by go_num, rfl, HN.out, HO.out, hb⟩
        case measure => simp [intOf]; omega
      | true =>
        have HN := Lib.hid (HA.out.blank hlt (byteN_eq hq))
        have HO1 := Lib.hid (HO.out.alloc (.cells #[.string (s.extract fr k)] 9))
        have H1 := Lib.hid (RdS_one' wr (s.extract fr k) 9)
        have hb1 : Below w.heap.size w (wr.alloc (.cells #[.string (s.extract fr k)] 9)) := hb.alloc hb.size _
        have hs1 := hb1.size
        go_wp2_with (at_builtin; refine wpList_append_texts _ rfl (.tmp 19) (.tmp 24) _ rfl w.heap.size 9 i _ 16 Try.underlying27 HI.out HZ.out HS.out HB.out rfl _ _ _ rfl HO1.out _ _ 1 1 [s.extract fr k] rfl H1.out ?_ ?_ ?_ ?_)
        · unfold maxLen; omega
        · omega
        · simpa using hs1
        intro v2 w2 hown2 hg2
        have hb2 : Below w.heap.size w w2 := hb1.grown hg2 hs1 (fun g' hg' => (HO.out.lt g' hg').1)
        have HV := Lib.hid hown2
        clear hown2 HO1 H1 hs1
        go_wp2
        go_roundw
        case rel => exact ⟨k + 1, k + 1, _, by omega, by go_num, by go_num, HN.out, owns_lenT HV.out, hb2⟩
        case measure => simp [intOf]; omega
    · obtain rfl : k = s.size := by omega
      have HN := Lib.hid HA.out.last
      have HO1 := Lib.hid (HO.out.alloc (.cells #[.string (s.extract fr s.size)] 9))
      have H1 := Lib.hid (RdS_one' wr (s.extract fr s.size) 9)
      have hb1 : Below w.heap.size w (wr.alloc (.cells #[.string (s.extract fr s.size)] 9)) := hb.alloc hb.size _
      have hs1 := hb1.size
      go_wp2_with (at_builtin; refine wpList_append_texts _ rfl (.tmp 28) (.tmp 32) _ rfl w.heap.size 9 i _ 16 Try.underlying27 HI.out HZ.out HS.out HB.out rfl _ _ _ rfl HO1.out _ _ 1 1 [s.extract fr s.size] rfl H1.out ?_ ?_ ?_ ?_)
      · unfold maxLen; omega
      · omega
      · simpa using hs1
      intro v2 w2 hown2 hg2
      have hb2 : Below w.heap.size w w2 := hb1.grown hg2 hs1 (fun g' hg' => (HO.out.lt g' hg').1)
      have HV := Lib.hid hown2
      clear hown2 HO1 H1 hs1
      go_wp2
      go_ret
      exact ⟨_, rfl, by have := owns_lenT HV.out; rw [HN.out] at this; exact this, hb2⟩

end Go.Proofs.Ytlkpbpecgdphaaa
namespace Go.Proofs.Ytlkpbpecgdphaaa
open Go.RowKit

def findR (s p : Bs) (fr : Nat) : Int := if Lib.index (s.drop fr) p = -1 then -1 else Lib.index (s.drop fr) p + fr
theorem occ_iff (s p : ByteArray) (i : Nat) (_h : i + p.size ≤ s.size) : ((s.extract i (i + p.size)).toList == p.toList) = Lib.occAt s.data.toList p.data.toList i := by
  unfold Lib.occAt
  rw [Lib.extract_toList, Lib.toList_data, Bool.eq_iff_iff, beq_iff_eq, List.isPrefixOf_iff_prefix, List.prefix_iff_eq_take]
  have e : i + p.size - i = p.data.toList.length := by simp
  rw [e]
  exact eq_comm
theorem occ_drop (s p : Bs) (fr j : Nat) : Lib.occAt (s.drop fr) p j = Lib.occAt s p (fr + j) := by
  unfold Lib.occAt
  rw [List.drop_drop]
def FdRel (s p : ByteArray) (fr : Nat) (i : Value) : Prop := ∃ k : Nat, k ≤ s.size + 1 ∧ fr ≤ k ∧ i = .int .i64 k ∧ ∀ j, fr ≤ j → j < k → Lib.occAt s.data.toList p.data.toList j = false
theorem find_hit {s p : Bs} {fr k : Nat} (hk : fr ≤ k) (hl : k ≤ s.length) (hno : ∀ j, fr ≤ j → j < k → Lib.occAt s p j = false) (ho : Lib.occAt s p k = true) : findR s p fr = k := by
  have h1 : Lib.index (s.drop fr) p = ((k - fr : Nat) : Int) := by
    refine Lib.index_hit (fun j hj => ?_) (by rw [List.length_drop]; omega) ?_
    · rw [occ_drop]; exact hno _ (by omega) (by omega)
    · rw [occ_drop, show fr + (k - fr) = k by omega]; exact ho
  unfold findR
  rw [h1, if_neg (by omega)]
  omega
theorem find_miss {s p : Bs} {fr k : Nat} (hp : p ≠ []) (hf : fr ≤ s.length) (hk : fr ≤ k) (hl : s.length < k + p.length) (hno : ∀ j, fr ≤ j → j < k → Lib.occAt s p j = false) : findR s p fr = -1 := by
  have h1 : Lib.index (s.drop fr) p = -1 := by
    refine Lib.index_past hp (i := k - fr) (fun j hj => ?_) (by rw [List.length_drop]; omega)
    rw [occ_drop]; exact hno _ (by omega) (by omega)
  unfold findR
  rw [if_pos h1]

set_option maxHeartbeats 1000000 in
set_option maxRecDepth 100000 in
theorem find_any (s p : ByteArray) (fr : Nat) (w : World) (hp : 1 ≤ p.size) (hpb : p.size ≤ 1000) (hfr : fr ≤ s.size) (hs : s.size ≤ 1000000) :
    Calls Try.prog 38 #[.string s, .string p, .int .i64 fr] w fun e w' => e = .returned (.int .i64 (findR s.data.toList p.data.toList fr)) ∧ w = w' := by
  obtain ⟨r, hr⟩ : ∃ r, r = findR s.data.toList p.data.toList fr := ⟨_, rfl⟩
  rw [← hr]
  have HR := Lib.hid hr
  clear hr
  have hsl : s.data.toList.length = s.size := by simp
  have hpl : p.data.toList.length = p.size := by simp
  have HSL := Lib.hid hsl
  have HPL := Lib.hid hpl
  have HPN := Lib.hid (show p.data.toList ≠ [] from fun e => by rw [e] at hpl; simp at hpl; omega)
  clear hsl hpl
  go_enter Try.func38, Try.ntmps38
  go_wp2
  go_loop [7] (fun i => FdRel s p fr i) (fun i => s.size + 1 - (intOf i).toNat)
  case atStart => exact ⟨fr, by omega, Nat.le_refl _, rfl, fun j h1 h2 => by omega⟩
  case round =>
    obtain ⟨k, hk, hfk, rfl, hno⟩ := hrel
    have HNO := Lib.hid hno
    clear hno
    have hw : (k : Int) + (p.size : Int) ≤ 2000000 := by omega
    by_cases hlt : k + p.size ≤ s.size
    · have hkz : (k : Int) + (p.size : Int) ≤ (s.size : Int) := by omega
      have hoc := occ_iff s p k hlt
      cases hq : Lib.occAt s.data.toList p.data.toList k with
      | true =>
        rw [hq] at hoc
        have H1 := Lib.hid (HR.out.trans (find_hit hfk (by rw [HSL.out]; omega) HNO.out hq))
        go_wp2
        go_ret
        exact ⟨by rw [H1.out]; rfl, rfl⟩
      | false =>
        rw [hq] at hoc
        go_wp2
        go_round
        case rel =>
          refine ⟨k + 1, by omega, by omega, by go_num, fun j h1 h2 => ?_⟩
          rcases Nat.lt_or_ge j k with h3 | h3
          · exact HNO.out j h1 h3
          · obtain rfl : j = k := by omega
            exact hq
        case measure => simp [intOf]; omega
    · have hkz : decide ((k : Int) + (p.size : Int) ≤ (s.size : Int)) = false := decide_eq_false (by omega)
      have H1 := Lib.hid (HR.out.trans (find_miss HPN.out (by rw [HSL.out]; exact hfr) hfk (by rw [HSL.out, HPL.out]; omega) HNO.out))
      go_wp2
      go_ret
      exact ⟨by rw [H1.out]; rfl, rfl⟩

set_option maxHeartbeats 1000000 in
set_option maxRecDepth 100000 in
theorem varMay_any (s : ByteArray) (w : World) (hs : s.size ≤ 1000000) : Calls Try.prog 39 #[.string s] w fun e w' => e = .returned (.bool (varOk s)) ∧ w = w' := by
  generalize hb : varOk s = b
  have HB := Lib.hid hb
  clear hb
  by_cases h1 : s.size < 1
  · have hd : (s.size : Int) < 1 := by omega
    have H1 := Lib.hid (varOk_short h1)
    go_enter Try.func39, Try.ntmps39
    go_wp2
    go_ret
    exact ⟨by rw [← HB.out, H1.out]; rfl, rfl⟩
  have hd1 : decide ((s.size : Int) < 1) = false := decide_eq_false (by omega)
  by_cases h4 : 4 < s.size
  · have hd : (4 : Int) < (s.size : Int) := by omega
    have H1 := Lib.hid (varOk_long h4)
    go_enter Try.func39, Try.ntmps39
    go_wp2
    go_ret
    exact ⟨by rw [← HB.out, H1.out]; rfl, rfl⟩
  have hd4 : decide ((4 : Int) < (s.size : Int)) = false := decide_eq_false (by omega)
  go_enter Try.func39, Try.ntmps39
  go_wp2
  go_loop [3] (fun i => VarRel s i) (fun i => s.size - (intOf i).toNat)
  case atStart => exact ⟨0, Nat.zero_le _, rfl, fun j hj h => by omega⟩
  case round =>
    obtain ⟨k, hk, rfl, hall⟩ := hrel
    have HA := Lib.hid hall
    clear hall
    by_cases hlt : k < s.size
    · have hkz : (k : Int) < (s.size : Int) := by omega
      cases hq1 : decide ((s[k].toNat : Int) < 65) with
      | true =>
        have hq1' : (s[k].toNat : Int) < 65 := of_decide_eq_true hq1
        have H1 := Lib.hid (varOk_bad hlt (by unfold capB; rw [decide_eq_false (by omega : ¬ 65 ≤ s[k].toNat)]; rfl))
        go_wp2
        go_ret
        exact ⟨by rw [← HB.out, H1.out]; rfl, rfl⟩
      | false =>
        have hq1' : ¬ (s[k].toNat : Int) < 65 := of_decide_eq_false hq1
        cases hq2 : decide ((90 : Int) < (s[k].toNat : Int)) with
        | true =>
          have hq2' : (90 : Int) < (s[k].toNat : Int) := of_decide_eq_true hq2
          have H1 := Lib.hid (varOk_bad hlt (by unfold capB; rw [decide_eq_false (by omega : ¬ s[k].toNat ≤ 90)]; simp))
          go_wp2
          go_ret
          exact ⟨by rw [← HB.out, H1.out]; rfl, rfl⟩
        | false =>
          have hq2' : ¬ (90 : Int) < (s[k].toNat : Int) := of_decide_eq_false hq2
          have hc : capB s[k] = true := by unfold capB; rw [decide_eq_true (by omega : 65 ≤ s[k].toNat), decide_eq_true (by omega : s[k].toNat ≤ 90)]; rfl
          have HC := Lib.hid hc
          clear hc
          go_wp2
          go_round
          case rel =>
            refine ⟨k + 1, by omega, by go_num, fun j hj h => ?_⟩
            rcases Nat.lt_or_ge j k with h' | h'
            · exact HA.out j hj h'
            · obtain rfl : j = k := by omega
              exact HC.out
          case measure => simp [intOf]; omega
    · obtain rfl : k = s.size := by omega
      have H1 := Lib.hid (varOk_all (by omega) (by omega) (fun j hj => HA.out j hj hj))
      go_wp2
      go_ret
      exact ⟨by rw [← HB.out, H1.out]; rfl, rfl⟩
end Go.Proofs.Ytlkpbpecgdphaaa
namespace Go.Proofs.Ytlkpbpecgdphaaa
open Go.RowKit

theorem byte32_ne {b : UInt8} (h : ((b.toNat : Int) == 32) = false) : b ≠ 32 := by rintro rfl; simp at h
theorem byte32_eq {b : UInt8} (h : ((b.toNat : Int) == 32) = true) : b = 32 := by
  have h1 : (b.toNat : Int) = 32 := by simpa using h
  apply UInt8.toNat_inj.1
  show b.toNat = 32
  omega
structure FlRel (w : World) (s : ByteArray) (v c i : Value) (wr : World) : Prop where
  ex : ∃ (k : Nat) (out : List ByteArray) (cur : Bs), k ≤ s.size ∧ i = .int .i64 k ∧ c = .string (ba cur) ∧ cur.length ≤ k ∧ out.length ≤ k ∧ wordsR s.data.toList = out ++ (fldGo cur (s.data.toList.drop k)).map ba ∧
    wr.ownsRow w.heap.size 9 1 v out.length (tcells out) ∧ Below w.heap.size w wr
theorem drop_at (s : ByteArray) {k : Nat} (h : k < s.size) : s.data.toList.drop k = s[k] :: s.data.toList.drop (k + 1) := by
  have hl : k < s.data.toList.length := by simpa using h
  rw [List.drop_eq_getElem_cons hl]
  rfl
theorem ext_one (s : ByteArray) {k : Nat} (h : k < s.size) : s.extract k (k + 1) = ba [s[k]] := by
  rw [← ba_of (s.extract k (k + 1)), Lib.extract_data, drop_at s h, show k + 1 - k = 1 by omega]
  rfl
theorem ba_ne {cur : Bs} (h : cur ≠ []) : ((ba cur).toList == []) = false := by
  rw [Lib.toList_data, ba_data, beq_eq_false_iff_ne]; exact h
theorem ba_e {cur : Bs} (h : cur = []) : ((ba cur).toList == []) = true := by
  rw [Lib.toList_data, ba_data, h]; rfl

set_option maxHeartbeats 2000000 in
set_option maxRecDepth 100000 in
theorem fields_any (s : ByteArray) (w : World) (hs : s.size ≤ 100000) :
    Calls Try.prog 56 #[.string s] w fun e w' => ∃ v, e = .returned v ∧ w'.ownsRow w.heap.size 9 1 v (wordsR s.data.toList).length (tcells (wordsR s.data.toList)) ∧ Below w.heap.size w w' := by
  obtain ⟨ti, hi, hz, hsz, hby⟩ := text_parts
  have HI := Lib.hid hi
  have HZ := Lib.hid hz
  have HS := Lib.hid hsz
  have HB := Lib.hid hby
  clear hi hz hsz hby
  go_enter Try.func56, Try.ntmps56
  go_wp2
  go_loopw [3, 4, 5] (fun v c i wr => FlRel w s v c i wr) (fun _ _ i _ => s.size - (intOf i).toNat)
  case atStart => exact ⟨0, [], [], Nat.zero_le _, rfl, rfl, Nat.le_refl _, Nat.le_refl _, rfl, World.ownsRow_nil _ _ _ _, Below.refl _ _⟩
  case round =>
    obtain ⟨k, out, cur, hk, rfl, rfl, hcl, hol, hw, hown, hb⟩ := hrel.ex
    clear hrel
    have HO := Lib.hid hown
    have zc : (ba cur).size ≤ 100000 := by rw [ba_size]; omega
    clear hown
    by_cases hlt : k < s.size
    · have hkz : (k : Int) < (s.size : Int) := by omega
      rw [drop_at s hlt] at hw
      cases hq : ((s[k].toNat : Int) == 32) with
      | false =>
        rw [fldGo, if_neg (byte32_ne hq)] at hw
        have e1 := ext_one s hlt
        have HE := Lib.hid e1
        have HW := Lib.hid hw
        have z1 : (s.extract k (k + 1)).size ≤ 1 := by rw [e1, ba_size]; simp
        clear hw e1
        go_wp2
        go_roundw
        case rel => exact ⟨k + 1, out, cur ++ [s[k]], by omega, by go_num, by rw [ba_append, ← HE.out], by simp; omega, by omega, HW.out, HO.out, hb⟩
        case measure => simp [intOf]; omega
      | true =>
        rw [fldGo, if_pos (byte32_eq hq)] at hw
        by_cases hc : cur = []
        · have t1 := ba_e hc
          rw [if_pos hc] at hw
          have HW := Lib.hid hw
          clear hw hc
          go_wp2
          go_roundw
          case rel => exact ⟨k + 1, out, [], by omega, by go_num, rfl, by simp, by omega, HW.out, HO.out, hb⟩
          case measure => simp [intOf]; omega
        · have t1 := ba_ne hc
          rw [if_neg hc] at hw
          have HW := Lib.hid (show wordsR s.data.toList = (out ++ [ba cur]) ++ (fldGo [] (s.data.toList.drop (k + 1))).map ba by rw [hw]; simp)
          clear hw hc
          have HO1 := Lib.hid (HO.out.alloc (.cells #[.string (ba cur)] 9))
          have H1 := Lib.hid (RdS_one' wr (ba cur) 9)
          have hb1 : Below w.heap.size w (wr.alloc (.cells #[.string (ba cur)] 9)) := hb.alloc hb.size _
          have hs1 := hb1.size
          go_wp2_with (at_builtin; refine wpList_append_texts _ rfl (.tmp 20) (.tmp 22) _ rfl w.heap.size 9 ti _ 16 Try.underlying27 HI.out HZ.out HS.out HB.out rfl _ _ _ rfl HO1.out _ _ 1 1 [ba cur] rfl H1.out ?_ ?_ ?_ ?_)
          · unfold maxLen; omega
          · omega
          · simpa using hs1
          intro v2 w2 hown2 hg2
          have hb2 : Below w.heap.size w w2 := hb1.grown hg2 hs1 (fun g' hg' => (HO.out.lt g' hg').1)
          have HV := Lib.hid hown2
          clear hown2 HO1 H1 hs1
          go_wp2
          go_roundw
          case rel => exact ⟨k + 1, out ++ [ba cur], [], by omega, by go_num, rfl, by simp, by simp; omega, HW.out, owns_lenT HV.out, hb2⟩
          case measure => simp [intOf]; omega
    · obtain rfl : k = s.size := by omega
      rw [List.drop_of_length_le (by simp), fldGo] at hw
      by_cases hc : cur = []
      · have t1 := ba_e hc
        rw [if_pos hc] at hw
        have HW := Lib.hid (show wordsR s.data.toList = out by rw [hw]; simp)
        clear hw hc
        go_wp2
        go_ret
        exact ⟨_, rfl, by rw [HW.out]; exact HO.out, hb⟩
      · have t1 := ba_ne hc
        rw [if_neg hc] at hw
        have HW := Lib.hid (show wordsR s.data.toList = out ++ [ba cur] by rw [hw]; simp)
        clear hw hc
        have HO1 := Lib.hid (HO.out.alloc (.cells #[.string (ba cur)] 9))
        have H1 := Lib.hid (RdS_one' wr (ba cur) 9)
        have hb1 : Below w.heap.size w (wr.alloc (.cells #[.string (ba cur)] 9)) := hb.alloc hb.size _
        have hs1 := hb1.size
        go_wp2_with (at_builtin; refine wpList_append_texts _ rfl (.tmp 33) (.tmp 35) _ rfl w.heap.size 9 ti _ 16 Try.underlying27 HI.out HZ.out HS.out HB.out rfl _ _ _ rfl HO1.out _ _ 1 1 [ba cur] rfl H1.out ?_ ?_ ?_ ?_)
        · unfold maxLen; omega
        · omega
        · simpa using hs1
        intro v2 w2 hown2 hg2
        have hb2 : Below w.heap.size w w2 := hb1.grown hg2 hs1 (fun g' hg' => (HO.out.lt g' hg').1)
        have HV := Lib.hid hown2
        clear hown2 HO1 H1 hs1
        go_wp2
        go_ret
        exact ⟨_, rfl, by rw [HW.out]; exact owns_lenT HV.out, hb2⟩

/-- The first '%' by another text. -/
def onceB (s y : ByteArray) : ByteArray := if (Lib.cut s.data.toList [37]).2.2 = true then ba ((Lib.cut s.data.toList [37]).1 ++ (y.data.toList ++ (Lib.cut s.data.toList [37]).2.1)) else s
theorem onceB_a (s : ByteArray) : onceB s ⟨#[97]⟩ = onceR s := rfl
set_option maxHeartbeats 2000000 in
set_option maxRecDepth 100000 in
theorem once_any (s y : ByteArray) (w : World) (hs : s.size ≤ 100000) (hy : y.size ≤ 100000) :
    Calls Try.prog 57 #[.string s, .string y] w fun e w' => e = .returned (.string (onceB s y)) ∧ ∃ q, w' = w.drewN q := by
  generalize hr : onceB s y = r
  have HR := Lib.hid hr
  clear hr
  go_enter Try.func57, Try.ntmps57
  go_wp2_with fail
  refine (find_any s ⟨#[37]⟩ 0 w (by decide) (by decide) (by omega) (by omega)).mono ?_
  rintro e w' ⟨rfl, rfl⟩
  rw [show (⟨#[37]⟩ : ByteArray).data.toList = [37] from rfl]
  have hge := Lib.index_ge s.data.toList [37]
  by_cases hm : Lib.index s.data.toList [37] = -1
  · rw [show findR s.data.toList [37] 0 = -1 by unfold findR; rw [List.drop_zero, if_pos hm]]
    have hr := HR.out
    unfold onceB at hr
    rw [cut_none hm] at hr
    simp only [Bool.false_eq_true, if_false] at hr
    have HY := Lib.hid hr
    clear hr hm hge
    go_wp2
    go_ret
    exact ⟨by rw [← HY.out]; rfl, 0, rfl⟩
  · obtain ⟨i, ei⟩ : ∃ i : Nat, Lib.index s.data.toList [37] = i := ⟨(Lib.index s.data.toList [37]).toNat, by omega⟩
    have hroom := Lib.index_room s.data.toList [37] (by omega)
    rw [ei] at hroom
    have hroom' : i + 1 ≤ s.size := by simp at hroom; omega
    rw [show findR s.data.toList [37] 0 = (i : Int) by unfold findR; rw [List.drop_zero, if_neg hm, ei]; simp]
    have hr := HR.out
    unfold onceB at hr
    rw [cut_at ei] at hr
    simp only [if_true, List.length_cons, List.length_nil, Nat.zero_add] at hr
    have e1 : s.extract 0 i = ba (s.data.toList.take i) := by rw [← ba_of (s.extract 0 i), Lib.extract_data]; simp
    have e2 : s.extract (i + 1) s.size = ba (s.data.toList.drop (i + 1)) := by rw [← ba_of (s.extract (i + 1) s.size), Lib.extract_data, List.take_of_length_le (by simp)]
    have hrr : r = s.extract 0 i ++ y ++ s.extract (i + 1) s.size := by rw [← hr, ba_append, ba_append, ba_of, e1, e2, ByteArray.append_assoc]
    have HY := Lib.hid hrr
    have z1 : (s.extract 0 i).size ≤ 100000 := by rw [ByteArray.size_extract]; omega
    have z2 : (s.extract (i + 1) s.size).size ≤ 100000 := by rw [ByteArray.size_extract]; omega
    have z3 : (s.extract 0 i ++ y).size ≤ 200000 := by rw [ByteArray.size_append]; omega
    have hiz : (i : Int) + 1 ≤ (s.size : Int) := by omega
    clear hrr hr e1 e2 hroom hm hge ei
    go_wp2
    go_quiet (fail)
    go_wp2
    go_ret
    exact ⟨by rw [HY.out]; rfl, _, rfl⟩
end Go.Proofs.Ytlkpbpecgdphaaa
