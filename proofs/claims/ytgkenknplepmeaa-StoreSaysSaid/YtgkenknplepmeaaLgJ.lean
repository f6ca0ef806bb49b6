/-
  WALK: hammerpondref.four: what it gives.
-/
import Derived.Test.YtgkenknplepmeaaLgG
import Derived.Test.YtgkenknplepmeaaDkW
import Derived.Test.YtgkenknplepmeaaDkF
namespace Go.Proofs.Ytgkenknplepmeaa
open Go.RowKit Go.Sort

/-- What writing sectors from one on, and flushing, does to a disk. -/
def wrL (D : Dk) (n : Nat) : List ByteArray → Dk × Int
  | [] => flushR D
  | s :: r => if (writeR D n s).2 ≠ 0 then writeR D n s else wrL (writeR D n s).1 (n + 1) r
/-- The disk takes n more writes before a flush. -/
structure WOk (D : Dk) (n : Nat) : Prop where
  left : -9223372036854775808 ≤ D.left ∧ D.left ≤ 9223372036854775807
  next : D.next + n < 64
  bit : ∀ i, i < D.n → ∀ x ∈ (D.sec i).ws, x.1 < D.next
  len : ∀ i, i < D.n → (D.sec i).ws.length ≤ D.next
theorem stepR_n (D : Dk) : (stepR D).1.n = D.n := by unfold stepR; split <;> rfl
theorem stepR_left {D : Dk} (h : -9223372036854775808 ≤ D.left ∧ D.left ≤ 9223372036854775807) : -9223372036854775808 ≤ (stepR D).1.left ∧ (stepR D).1.left ≤ 9223372036854775807 := by
  unfold stepR
  split
  · exact h
  · show -9223372036854775808 ≤ (if 0 < D.left then D.left - 1 else D.left) ∧ (if 0 < D.left then D.left - 1 else D.left) ≤ 9223372036854775807
    split <;> omega
theorem writeR_n (D : Dk) (a : Int) (s : ByteArray) : (writeR D a s).1.n = D.n := by
  unfold writeR
  split
  · rfl
  · split
    · exact stepR_n D
    · exact stepR_n D
theorem WOk.write {D : Dk} {n k : Nat} {s : ByteArray} (h : WOk D (n + 1)) (hs : s.size ≤ 340) (hk : k < D.n) (he : (writeR D k s).2 = 0) : WOk (writeR D k s).1 n := by
  have hh : hasR D k = true := by unfold hasR; rw [decide_eq_true (by omega), decide_eq_true (by omega)]; rfl
  have hx := h.next
  unfold writeR at he ⊢
  rw [if_neg (by rintro (e | e); rw [hh] at e; cases e; omega)] at he ⊢
  by_cases h0 : (stepR D).2 ≠ 0
  · rw [if_pos h0] at he
    exact absurd he h0
  rw [if_neg h0]
  have hm : (D.next + 1) % 64 = D.next + 1 := Nat.mod_eq_of_lt (by omega)
  refine ⟨stepR_left h.left, by show (D.next + 1) % 64 + n < 64; omega, fun i hi x hx' => ?_, fun i hi => ?_⟩
  · show x.1 < (D.next + 1) % 64
    rw [hm]
    have hi' : i < D.n := by rw [← stepR_n D]; exact hi
    have hx2 : x ∈ (updS D.sec (Int.toNat k) ⟨(D.sec (Int.toNat k)).dur, (D.sec (Int.toNat k)).ws ++ [(D.next, padB s)]⟩ i).ws := hx'
    unfold updS at hx2
    split at hx2
    · rename_i e
      rcases List.mem_append.1 hx2 with h1 | h1
      · have := h.bit (Int.toNat k) (by rw [← e]; exact hi') x h1
        omega
      · have : x = (D.next, padB s) := by simpa using h1
        rw [this]
        show D.next < D.next + 1
        omega
    · have := h.bit i hi' x hx2
      omega
  · show (updS D.sec (Int.toNat k) ⟨(D.sec (Int.toNat k)).dur, (D.sec (Int.toNat k)).ws ++ [(D.next, padB s)]⟩ i).ws.length ≤ (D.next + 1) % 64
    rw [hm]
    have hi' : i < D.n := by rw [← stepR_n D]; exact hi
    unfold updS
    split
    · rename_i e
      have := h.len (Int.toNat k) (by rw [← e]; exact hi')
      rw [List.length_append]
      show (D.sec (Int.toNat k)).ws.length + 1 ≤ D.next + 1
      omega
    · have := h.len i hi'
      omega
def WrPost (w : World) (base p B : Nat) (D : Dk) (n : Nat) (ss : List ByteArray) (e : Ending) (w' : World) : Prop := e = .returned (erV (wrL D n ss).2) ∧ (∃ V', DkAt w' base p B V' (wrL D n ss).1) ∧ Below base w w' ∧ Ty w w'
def WrRel (w : World) (base p B : Nat) (D : Dk) (n : Nat) (ss : List ByteArray) (vi : Value) (wr : World) : Prop := ∃ (k : Nat) (V' : Nat → Value) (D' : Dk), k ≤ ss.length ∧ vi = .int .i64 k ∧ DkAt wr base p B V' D' ∧ D'.n = D.n ∧ WOk D' (ss.length - k) ∧ wrL D' (n + k) (ss.drop k) = wrL D n ss ∧ Below base w wr ∧ Ty w wr
set_option maxHeartbeats 1000000 in
set_option maxRecDepth 100000 in
theorem logWrite_any (pl base p B fr mn fi u n b off c : Nat) (cs : Array Value) (V : Nat → Value) (D : Dk) (ss : List ByteArray) (w : World) (hl : Blk w pl tLog #[ptr p, .int .i64 fr, .int .i64 mn, .int .i64 fi, .int .i64 u]) (hd : DkAt w base p B V D)
    (hb : 0 < ss.length → Blk w b tStr cs ∧ ∀ i s, ss[i]? = some s → cs[off + i]? = some (.string s)) (hn : n + ss.length ≤ D.n) (hs : ∀ s ∈ ss, s.size ≤ 340) (hw : WOk D ss.length) :
    Calls Try.prog 98 #[ptr pl, .int .i64 n, .slice (some ⟨b, off, none⟩) ss.length c] w (WrPost w base p B D n ss) := by
  have hn2 := hd.n2
  have HL := Lib.hid hl
  have HBK := Lib.hid hb
  have HS := Lib.hid hs
  have HST := Lib.hid (show WrRel w base p B D n ss (.int .i64 0) w from ⟨0, V, D, Nat.zero_le _, rfl, hd, rfl, hw, rfl, Below.refl _ _, Ty.refl _⟩)
  clear hl hd hb hs hw
  generalize hm : ss.length = m at *
  have HM := Lib.hid hm
  clear hm
  unfold ptr
  go_enter Try.func98, Try.ntmps98
  go_wp2
  go_loopw [12] (fun vi wr => WrRel w base p B D n ss vi wr) (fun vi _ => m - (intOf vi).toNat)
  case atStart => exact HST.out
  case round =>
    clear HST
    obtain ⟨k, V', D', hk, rfl, hd, hDn, hw, heq, hbe, hty⟩ := hrel
    have hkm : k ≤ m := by rw [HM.out] at hk; exact hk
    have hl1 : Blk wr pl tLog #[ptr p, .int .i64 fr, .int .i64 mn, .int .i64 fi, .int .i64 u] := hty pl tLog _ HL.out (by decide) (by decide) (by decide)
    have g0 := hl1.cell 0
    unfold ptr at g0
    have HEQ := Lib.hid heq
    have HBE := Lib.hid hbe
    have HTY := Lib.hid hty
    have HDN := Lib.hid hDn
    have HW := Lib.hid hw
    have HD := Lib.hid hd
    clear heq hbe hty hk hDn hw hd hl1
    by_cases hlt : k < m
    · obtain ⟨s, hs⟩ : ∃ s, ss[k]? = some s := ⟨_, List.getElem?_eq_getElem (by rw [HM.out]; exact hlt)⟩
      obtain ⟨hbk, hcell⟩ := HBK.out (by omega)
      have hbk1 : Blk wr b tStr cs := HTY.out b tStr _ hbk (by decide) (by decide) (by decide)
      have y0 : wr.cell? ⟨b, off + k, none⟩ = some (.string s) := (hbk1.cell _).trans (hcell k s hs)
      have hss := HS.out s (List.mem_of_getElem? hs)
      have hkn : n + k < D'.n := by rw [HDN.out]; omega
      have hwr := write_good base p B (n + k) V' D' s wr HD.out hss hkn HW.out.left (fun x hx => by have := HW.out.bit (n + k) hkn x hx; omega) (by have := HW.out.len (n + k) hkn; have := HW.out.next; omega)
      rw [show ((n + k : Nat) : Int) = (n : Int) + (k : Int) by omega] at hwr
      have hdrop : ss.drop k = s :: ss.drop (k + 1) := by
        have h1 := (List.getElem?_eq_some_iff.1 hs).1
        rw [List.drop_eq_getElem_cons h1]
        rw [List.getElem?_eq_getElem h1] at hs
        injection hs with hs
        rw [hs]
      have heq2 := HEQ.out
      rw [hdrop, wrL, show ((n + k : Nat) : Int) = (n : Int) + (k : Int) by omega] at heq2
      have hok : (writeR D' ((n : Int) + (k : Int)) s).2 = 0 → WOk (writeR D' ((n : Int) + (k : Int)) s).1 (m - (k + 1)) := fun h0 => by
        have := HW.out
        rw [HM.out, show m - k = (m - (k + 1)) + 1 by omega] at this
        have h2 := this.write (k := n + k) hss hkn (by rw [show ((n + k : Nat) : Int) = (n : Int) + (k : Int) by omega]; exact h0)
        rw [show ((n + k : Nat) : Int) = (n : Int) + (k : Int) by omega] at h2
        exact h2
      have hnn := writeR_n D' ((n : Int) + (k : Int)) s
      unfold ptr at hwr
      generalize writeR D' ((n : Int) + (k : Int)) s = R at *
      obtain ⟨D2, e2⟩ := R
      simp only at hwr heq2 hok hnn
      have HWR := Lib.hid hwr
      have HOK := Lib.hid hok
      have HN := Lib.hid hnn
      have kz : (k : Int) < (m : Int) := by omega
      clear hwr hok hnn hdrop hs hcell hbk hbk1 hss
      by_cases h0 : e2 = 0
      · subst h0
        rw [if_neg (by simp)] at heq2
        have HE2 := Lib.hid heq2
        rw [show erV 0 = .nilIface from rfl] at HWR
        clear heq2
        go_wp2_with fail
        refine HWR.out.mono ?_
        rintro e w2 ⟨rfl, hd2, hb2, ht2⟩
        have HD2 := Lib.hid hd2
        have HB2 := Lib.hid (HBE.out.trans hb2)
        have HT2 := Lib.hid (HTY.out.trans ht2)
        clear hd2 hb2 ht2 HWR g0 y0
        go_wp2
        go_roundw
        case rel =>
          obtain ⟨V2, hd2⟩ := HD2.out
          exact ⟨k + 1, V2, D2, by rw [HM.out]; omega, by go_num, hd2, by rw [HN.out, HDN.out], by rw [HM.out]; first | exact HOK.out rfl | exact HOK.out trivial, by rw [← HE2.out, Nat.add_assoc], HB2.out, HT2.out⟩
        case measure => simp [intOf]; omega
      · rw [if_pos h0] at heq2
        have HE2 := Lib.hid heq2
        have HE := Lib.hid (show erV e2 = .iface 96 (.int .i64 e2) from if_neg h0)
        rw [HE.out] at HWR
        clear heq2
        go_wp2_with fail
        refine HWR.out.mono ?_
        rintro e w2 ⟨rfl, hd2, hb2, ht2⟩
        have HD2 := Lib.hid hd2
        have HB2 := Lib.hid (HBE.out.trans hb2)
        have HT2 := Lib.hid (HTY.out.trans ht2)
        clear hd2 hb2 ht2 HWR g0 y0
        go_wp2
        go_ret
        exact ⟨by rw [← HE2.out, HE.out]; rfl, by rw [← HE2.out]; exact HD2.out, HB2.out, HT2.out⟩
    · obtain rfl : k = m := by omega
      have hfl := flush_any base p B V' D' wr HD.out HW.out.left (fun i hi => by have := HW.out.len i hi; have := HW.out.next; omega)
      have heq2 := HEQ.out
      rw [List.drop_of_length_le (by rw [HM.out]; exact Nat.le_refl _), wrL] at heq2
      unfold ptr at hfl
      have HFL := Lib.hid hfl
      have HE2 := Lib.hid heq2
      clear hfl heq2
      generalize flushR D' = R at *
      obtain ⟨D2, e2⟩ := R
      simp only at HFL
      generalize hE : erV e2 = E at *
      go_wp2_with fail
      refine HFL.out.mono ?_
      rintro e w2 ⟨rfl, hd2, hb2, ht2⟩
      have HD2 := Lib.hid hd2
      have HB2 := Lib.hid (HBE.out.trans hb2)
      have HT2 := Lib.hid (HTY.out.trans ht2)
      clear hd2 hb2 ht2 HFL g0
      go_wp2
      go_ret
      exact ⟨by rw [← HE2.out]; show Ending.returned _ = .returned (erV e2); rw [hE]; rfl, by rw [← HE2.out]; exact HD2.out, HB2.out, HT2.out⟩
end Go.Proofs.Ytgkenknplepmeaa
namespace Go.Proofs.Ytgkenknplepmeaa
open Go.RowKit Go.Sort

theorem extract_list (s : ByteArray) (i j : Nat) : (s.extract i j).data.toList = (s.data.toList.drop i).take (j - i) := by
  rw [ByteArray.data_extract, Array.toList_extract]
  try simp only [List.extract_eq_take_drop]
theorem take_mid {α : Type} (a m z : List α) (i k : Nat) (ha : a.length = i) (hm : m.length = k) : ((a ++ m ++ z).drop i).take k = m := by
  rw [List.append_assoc, ← ha, List.drop_left, ← hm, List.take_left]
theorem numR_list (n k : Nat) : (numR n k).data.toList = (List.range k).map (numF n) := by
  show (((List.range k).map (numF n)).toArray).toList = _
  simp
theorem padB_list (s : ByteArray) : (padB s).data.toList = s.data.toList ++ List.replicate (340 - s.size) 0 := by
  show (s.data ++ Array.replicate (340 - s.size) 0).toList = _
  simp
theorem secR_list (k : ByteArray) (n : Nat) (d : ByteArray) : (secR k n d).data.toList = k.data.toList ++ (numR n 4).data.toList ++ (numR d.size 2).data.toList ++ d.data.toList := by
  unfold secR
  simp [ByteArray.data_append]
theorem ofL_two (n : Nat) (h : n < 65536) : ofL ((List.range 2).map (numF n)) = n := by
  have e : (List.range 2).map (numF n) = [numF n 0, numF n 1] := rfl
  rw [e]
  unfold ofL ofL ofL numF
  rw [UInt8.toNat_ofNat_of_lt' (by show _ < 256; exact Nat.mod_lt _ (by omega)), UInt8.toNat_ofNat_of_lt' (by show _ < 256; exact Nat.mod_lt _ (by omega))]
  simp
  omega
theorem len_list (s : ByteArray) : s.data.toList.length = s.size := by rw [Array.length_toList]; rfl
/-- A written sector. -/
theorem kdR_sec {k d : ByteArray} (hk : k.toList = [111] ∨ k.toList = [99]) (n : Nat) (hd : d.size ≤ 333) : kdR (padB (secR k n d)) n = (k, d) := by
  have hk1 : k.data.toList.length = 1 := by
    rcases hk with h | h
    · rw [← ByteArray.toList_eq, h]; rfl
    · rw [← ByteArray.toList_eq, h]; rfl
  have h4 : (numR n 4).data.toList.length = 4 := by rw [len_list, num4_size]
  have h2 : (numR d.size 2).data.toList.length = 2 := by rw [len_list, num2_size]
  have hl : (padB (secR k n d)).data.toList = k.data.toList ++ (numR n 4).data.toList ++ (numR d.size 2).data.toList ++ d.data.toList ++ List.replicate (340 - (secR k n d).size) 0 := by rw [padB_list, secR_list]
  have e0 : (padB (secR k n d)).extract 0 1 = k := list_eq (by
    rw [extract_list, hl]
    have := take_mid [] k.data.toList ((numR n 4).data.toList ++ ((numR d.size 2).data.toList ++ (d.data.toList ++ List.replicate (340 - (secR k n d).size) 0))) 0 1 rfl hk1
    simpa [List.append_assoc] using this)
  have e1 : (padB (secR k n d)).extract 1 5 = numR n 4 := list_eq (by
    rw [extract_list, hl]
    have := take_mid k.data.toList (numR n 4).data.toList ((numR d.size 2).data.toList ++ (d.data.toList ++ List.replicate (340 - (secR k n d).size) 0)) 1 4 hk1 h4
    simpa [List.append_assoc] using this)
  have e2 : (padB (secR k n d)).extract 5 7 = numR d.size 2 := list_eq (by
    rw [extract_list, hl]
    have := take_mid (k.data.toList ++ (numR n 4).data.toList) (numR d.size 2).data.toList (d.data.toList ++ List.replicate (340 - (secR k n d).size) 0) 5 2 (by rw [List.length_append, hk1, h4]) h2
    simpa [List.append_assoc] using this)
  have hz : szR (padB (secR k n d)) = d.size := by
    unfold szR
    rw [e2, numR_list, ofL_two _ (by omega)]
  have e3 : (padB (secR k n d)).extract 7 (7 + d.size) = d := list_eq (by
    rw [extract_list, hl, show 7 + d.size - 7 = d.size by omega]
    have := take_mid (k.data.toList ++ (numR n 4).data.toList ++ (numR d.size 2).data.toList) d.data.toList (List.replicate (340 - (secR k n d).size) 0) 7 d.size (by rw [List.length_append, List.length_append, hk1, h4, h2]) (len_list d)
    simpa [List.append_assoc] using this)
  have hb : conB (padB (secR k n d)) n = true := by
    unfold conB
    rw [e0, e1, hz]
    rcases hk with h | h <;> simp [h, hd]
  unfold kdR
  rw [if_pos hb, e0, hz, e3]
/-- A blank sector is not written. -/
theorem kdR_blank (n : Nat) : kdR (padB ⟨#[]⟩) n = (⟨#[]⟩, ⟨#[]⟩) := by
  have e0 : ((padB ⟨#[]⟩).extract 0 1).toList = [0] := by
    rw [ByteArray.toList_eq, extract_list, padB_list]
    rfl
  have hb : conB (padB ⟨#[]⟩) n = false := by
    unfold conB
    rw [e0]
    simp
  unfold kdR
  rw [hb]
  simp
end Go.Proofs.Ytgkenknplepmeaa
namespace Go.Proofs.Ytgkenknplepmeaa
open Go.RowKit Go.Sort

set_option maxHeartbeats 400000 in
set_option maxRecDepth 100000 in
theorem four_any (n : Nat) (w : World) (hn : n ≤ 4611686018427387904) : Calls Try.prog 76 #[.int .i64 n] w fun e w' => e = .returned (.string (numR n 4)) ∧ Grw w w' := by
  have hnum : ∀ m, ((numF n m).toNat : Int) = (n : Int) / (256 ^ m : Nat) % 256 := fun m => by
    unfold numF
    rw [UInt8.toNat_ofNat_of_lt' (by show _ < 256; exact Nat.mod_lt _ (by omega))]
    simp
  have hback := convert_back (P := Try.prog) (w.alloc (.cells #[.int .u8 ((n : Int) % 256), .int .u8 ((n : Int) / 256 % 256), .int .u8 ((n : Int) / 65536 % 256), .int .u8 ((n : Int) / 16777216 % 256)] 5)) 107 9 5 w.heap.size 4 4 (numF n) Try.underlying107 Try.underlying5 Try.underlying9 (by
    refine ⟨#[.int .u8 ((n : Int) % 256), .int .u8 ((n : Int) / 256 % 256), .int .u8 ((n : Int) / 65536 % 256), .int .u8 ((n : Int) / 16777216 % 256)], 5, _, Blk.new w 5 #[.int .u8 ((n : Int) % 256), .int .u8 ((n : Int) / 256 % 256), .int .u8 ((n : Int) / 65536 % 256), .int .u8 ((n : Int) / 16777216 % 256)], .inr rfl, fun j hj => ?_⟩
    match j, hj with
    | 0, _ => show some (Value.int .u8 _) = some (.int .u8 _); rw [hnum 0]; simp
    | 1, _ => show some (Value.int .u8 _) = some (.int .u8 _); rw [hnum 1]; rfl
    | 2, _ => show some (Value.int .u8 _) = some (.int .u8 _); rw [hnum 2]; rfl
    | 3, _ => show some (Value.int .u8 _) = some (.int .u8 _); rw [hnum 3]; rfl)
  have hb2 : ofBytes 4 (numF n) = numR n 4 := rfl
  rw [hb2] at hback
  clear hnum hb2
  go_enter Try.func76, Try.ntmps76
  go_wp2
  go_ret
  exact ⟨rfl, (Grw.refl w).alloc _⟩
end Go.Proofs.Ytgkenknplepmeaa
