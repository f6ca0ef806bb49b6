/-
  WALKS: hammerpondref.fields (the words of a text) and once (the first '%' by another text).
-/
import Derived.Test.YtkkoflbeggdblaaDoorSplitN
import Derived.Test.YtkkoflbeggdblaaDoorMkSpec
import Derived.Test.YtkkoflbeggdblaaDoorFind
namespace Go.Proofs.YtkkoflbeggdblaaDoor
open Go.RowKit

theorem byte32_ne {b : UInt8} (h : ((b.toNat : Int) == 32) = false) : b ≠ 32 := by rintro rfl; simp at h
theorem byte32_eq {b : UInt8} (h : ((b.toNat : Int) == 32) = true) : b = 32 := by
  have h1 : (b.toNat : Int) = 32 := by simpa using h
  apply UInt8.toNat_inj.1
  show b.toNat = 32
  omega
structure FlRel (w : World) (s : ByteArray) (v c i : Value) (wr : World) : Prop where
  ex : ∃ (k : Nat) (out : List ByteArray) (cur : Bs), k ≤ s.size ∧ i = .int .i64 k ∧ c = .string (ba cur) ∧ cur.length ≤ k ∧ out.length ≤ k ∧ wordsR s.data.toList = out ++ (fldGo cur (s.data.toList.drop k)).map ba ∧
    wr.ownsRow w.heap.size 9 1 v out.length (tcells out) ∧ Below w.heap.size w wr
theorem drop_at (s : ByteArray) {k : Nat} (h : k < s.size) : s.data.toList.drop k = s[k] :: s.data.toList.drop (k + 1) := by
  have hl : k < s.data.toList.length := by simpa using h
  rw [List.drop_eq_getElem_cons hl]
  rfl
theorem ext_one (s : ByteArray) {k : Nat} (h : k < s.size) : s.extract k (k + 1) = ba [s[k]] := by
  rw [← ba_of (s.extract k (k + 1)), Lib.extract_data, drop_at s h, show k + 1 - k = 1 by omega]
  rfl
theorem ba_ne {cur : Bs} (h : cur ≠ []) : ((ba cur).toList == []) = false := by
  rw [Lib.toList_data, ba_data, beq_eq_false_iff_ne]; exact h
theorem ba_e {cur : Bs} (h : cur = []) : ((ba cur).toList == []) = true := by
  rw [Lib.toList_data, ba_data, h]; rfl

set_option maxHeartbeats 2000000 in
set_option maxRecDepth 100000 in
theorem fields_any (s : ByteArray) (w : World) (hs : s.size ≤ 100000) :
    Calls Tryd.prog 91 #[.string s] w fun e w' => ∃ v, e = .returned v ∧ w'.ownsRow w.heap.size 9 1 v (wordsR s.data.toList).length (tcells (wordsR s.data.toList)) ∧ Below w.heap.size w w' := by
  obtain ⟨ti, hi, hz, hsz, hby⟩ := text_parts
  have HI := Lib.hid hi
  have HZ := Lib.hid hz
  have HS := Lib.hid hsz
  have HB := Lib.hid hby
  clear hi hz hsz hby
  go_enter Tryd.func91, Tryd.ntmps91
  go_wp2
  go_loopw [3, 4, 5] (fun v c i wr => FlRel w s v c i wr) (fun _ _ i _ => s.size - (intOf i).toNat)
  case atStart => exact ⟨0, [], [], Nat.zero_le _, rfl, rfl, Nat.le_refl _, Nat.le_refl _, rfl, World.ownsRow_nil _ _ _ _, Below.refl _ _⟩
  case round =>
    obtain ⟨k, out, cur, hk, rfl, rfl, hcl, hol, hw, hown, hb⟩ := hrel.ex
    clear hrel
    have HO := Lib.hid hown
    have zc : (ba cur).size ≤ 100000 := by rw [ba_size]; omega
    clear hown
    by_cases hlt : k < s.size
    · have hkz : (k : Int) < (s.size : Int) := by omega
      rw [drop_at s hlt] at hw
      cases hq : ((s[k].toNat : Int) == 32) with
      | false =>
        rw [fldGo, if_neg (byte32_ne hq)] at hw
        have e1 := ext_one s hlt
        have HE := Lib.hid e1
        have HW := Lib.hid hw
        have z1 : (s.extract k (k + 1)).size ≤ 1 := by rw [e1, ba_size]; simp
        clear hw e1
        go_wp2
        go_roundw
        case rel => exact ⟨k + 1, out, cur ++ [s[k]], by omega, by go_num, by rw [ba_append, ← HE.out], by simp; omega, by omega, HW.out, HO.out, hb⟩
        case measure => simp [intOf]; omega
      | true =>
        rw [fldGo, if_pos (byte32_eq hq)] at hw
        by_cases hc : cur = []
        · have t1 := ba_e hc
          rw [if_pos hc] at hw
          have HW := Lib.hid hw
          clear hw hc
          go_wp2
          go_roundw
          case rel => exact ⟨k + 1, out, [], by omega, by go_num, rfl, by simp, by omega, HW.out, HO.out, hb⟩
          case measure => simp [intOf]; omega
        · have t1 := ba_ne hc
          rw [if_neg hc] at hw
          have HW := Lib.hid (show wordsR s.data.toList = (out ++ [ba cur]) ++ (fldGo [] (s.data.toList.drop (k + 1))).map ba by rw [hw]; simp)
          clear hw hc
          have HO1 := Lib.hid (HO.out.alloc (.cells #[.string (ba cur)] 9))
          have H1 := Lib.hid (RdS_one' wr (ba cur) 9)
          have hb1 : Below w.heap.size w (wr.alloc (.cells #[.string (ba cur)] 9)) := hb.alloc hb.size _
          have hs1 := hb1.size
          go_wp2_with (at_builtin; refine wpList_append_texts _ rfl (.tmp 20) (.tmp 22) _ rfl w.heap.size 9 ti _ 16 Tryd.underlying32 HI.out HZ.out HS.out HB.out rfl _ _ _ rfl HO1.out _ _ 1 1 [ba cur] rfl H1.out ?_ ?_ ?_ ?_)
          · unfold maxLen; omega
          · omega
          · simpa using hs1
          intro v2 w2 hown2 hg2
          have hb2 : Below w.heap.size w w2 := hb1.grown hg2 hs1 (fun g' hg' => (HO.out.lt g' hg').1)
          have HV := Lib.hid hown2
          clear hown2 HO1 H1 hs1
          go_wp2
          go_roundw
          case rel => exact ⟨k + 1, out ++ [ba cur], [], by omega, by go_num, rfl, by simp, by simp; omega, HW.out, owns_lenT HV.out, hb2⟩
          case measure => simp [intOf]; omega
    · obtain rfl : k = s.size := by omega
      rw [List.drop_of_length_le (by simp), fldGo] at hw
      by_cases hc : cur = []
      · have t1 := ba_e hc
        rw [if_pos hc] at hw
        have HW := Lib.hid (show wordsR s.data.toList = out by rw [hw]; simp)
        clear hw hc
        go_wp2
        go_ret
        exact ⟨_, rfl, by rw [HW.out]; exact HO.out, hb⟩
      · have t1 := ba_ne hc
        rw [if_neg hc] at hw
        have HW := Lib.hid (show wordsR s.data.toList = out ++ [ba cur] by rw [hw]; simp)
        clear hw hc
        have HO1 := Lib.hid (HO.out.alloc (.cells #[.string (ba cur)] 9))
        have H1 := Lib.hid (RdS_one' wr (ba cur) 9)
        have hb1 : Below w.heap.size w (wr.alloc (.cells #[.string (ba cur)] 9)) := hb.alloc hb.size _
        have hs1 := hb1.size
        go_wp2_with (at_builtin; refine wpList_append_texts _ rfl (.tmp 33) (.tmp 35) _ rfl w.heap.size 9 ti _ 16 Tryd.underlying32 HI.out HZ.out HS.out HB.out rfl _ _ _ rfl HO1.out _ _ 1 1 [ba cur] rfl H1.out ?_ ?_ ?_ ?_)
        · unfold maxLen; omega
        · omega
        · simpa using hs1
        intro v2 w2 hown2 hg2
        have hb2 : Below w.heap.size w w2 := hb1.grown hg2 hs1 (fun g' hg' => (HO.out.lt g' hg').1)
        have HV := Lib.hid hown2
        clear hown2 HO1 H1 hs1
        go_wp2
        go_ret
        exact ⟨_, rfl, by rw [HW.out]; exact owns_lenT HV.out, hb2⟩

/-- The first '%' by another text. -/
def onceB (s y : ByteArray) : ByteArray := if (Lib.cut s.data.toList [37]).2.2 = true then ba ((Lib.cut s.data.toList [37]).1 ++ (y.data.toList ++ (Lib.cut s.data.toList [37]).2.1)) else s
theorem onceB_a (s : ByteArray) : onceB s ⟨#[97]⟩ = onceR s := rfl
set_option maxHeartbeats 2000000 in
set_option maxRecDepth 100000 in
theorem once_any (s y : ByteArray) (w : World) (hs : s.size ≤ 100000) (hy : y.size ≤ 100000) :
    Calls Tryd.prog 92 #[.string s, .string y] w fun e w' => e = .returned (.string (onceB s y)) ∧ ∃ q, w' = w.drewN q := by
  generalize hr : onceB s y = r
  have HR := Lib.hid hr
  clear hr
  go_enter Tryd.func92, Tryd.ntmps92
  go_wp2_with fail
  refine (find_any s ⟨#[37]⟩ 0 w (by decide) (by decide) (by omega) (by omega)).mono ?_
  rintro e w' ⟨rfl, rfl⟩
  rw [show (⟨#[37]⟩ : ByteArray).data.toList = [37] from rfl]
  have hge := Lib.index_ge s.data.toList [37]
  by_cases hm : Lib.index s.data.toList [37] = -1
  · rw [show findR s.data.toList [37] 0 = -1 by unfold findR; rw [List.drop_zero, if_pos hm]]
    have hr := HR.out
    unfold onceB at hr
    rw [cut_none hm] at hr
    simp only [Bool.false_eq_true, if_false] at hr
    have HY := Lib.hid hr
    clear hr hm hge
    go_wp2
    go_ret
    exact ⟨by rw [← HY.out]; rfl, 0, rfl⟩
  · obtain ⟨i, ei⟩ : ∃ i : Nat, Lib.index s.data.toList [37] = i := ⟨(Lib.index s.data.toList [37]).toNat, by omega⟩
    have hroom := Lib.index_room s.data.toList [37] (by omega)
    rw [ei] at hroom
    have hroom' : i + 1 ≤ s.size := by simp at hroom; omega
    rw [show findR s.data.toList [37] 0 = (i : Int) by unfold findR; rw [List.drop_zero, if_neg hm, ei]; simp]
    have hr := HR.out
    unfold onceB at hr
    rw [cut_at ei] at hr
    simp only [if_true, List.length_cons, List.length_nil, Nat.zero_add] at hr
    have e1 : s.extract 0 i = ba (s.data.toList.take i) := by rw [← ba_of (s.extract 0 i), Lib.extract_data]; simp
    have e2 : s.extract (i + 1) s.size = ba (s.data.toList.drop (i + 1)) := by rw [← ba_of (s.extract (i + 1) s.size), Lib.extract_data, List.take_of_length_le (by simp)]
    have hrr : r = s.extract 0 i ++ y ++ s.extract (i + 1) s.size := by rw [← hr, ba_append, ba_append, ba_of, e1, e2, ByteArray.append_assoc]
    have HY := Lib.hid hrr
    have z1 : (s.extract 0 i).size ≤ 100000 := by rw [ByteArray.size_extract]; omega
    have z2 : (s.extract (i + 1) s.size).size ≤ 100000 := by rw [ByteArray.size_extract]; omega
    have z3 : (s.extract 0 i ++ y).size ≤ 200000 := by rw [ByteArray.size_append]; omega
    have hiz : (i : Int) + 1 ≤ (s.size : Int) := by omega
    clear hrr hr e1 e2 hroom hm hge ei
    go_wp2
    go_quiet (fail)
    go_wp2
    go_ret
    exact ⟨by rw [HY.out]; rfl, _, rfl⟩
end Go.Proofs.YtkkoflbeggdblaaDoor
