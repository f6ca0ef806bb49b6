/-
  WALK: hammerpondref.four: what it gives.
-/
import Derived.Test.YtgkenknplepmeaaLgH
namespace Go.Proofs.Ytgkenknplepmeaa
open Go.RowKit Go.Sort

theorem extract_list (s : ByteArray) (i j : Nat) : (s.extract i j).data.toList = (s.data.toList.drop i).take (j - i) := by
  rw [ByteArray.data_extract, Array.toList_extract]
  try simp only [List.extract_eq_take_drop]
theorem take_mid {α : Type} (a m z : List α) (i k : Nat) (ha : a.length = i) (hm : m.length = k) : ((a ++ m ++ z).drop i).take k = m := by
  rw [List.append_assoc, ← ha, List.drop_left, ← hm, List.take_left]
theorem numR_list (n k : Nat) : (numR n k).data.toList = (List.range k).map (numF n) := by
  show (((List.range k).map (numF n)).toArray).toList = _
  simp
theorem padB_list (s : ByteArray) : (padB s).data.toList = s.data.toList ++ List.replicate (340 - s.size) 0 := by
  show (s.data ++ Array.replicate (340 - s.size) 0).toList = _
  simp
theorem secR_list (k : ByteArray) (n : Nat) (d : ByteArray) : (secR k n d).data.toList = k.data.toList ++ (numR n 4).data.toList ++ (numR d.size 2).data.toList ++ d.data.toList := by
  unfold secR
  simp [ByteArray.data_append]
theorem ofL_two (n : Nat) (h : n < 65536) : ofL ((List.range 2).map (numF n)) = n := by
  have e : (List.range 2).map (numF n) = [numF n 0, numF n 1] := rfl
  rw [e]
  unfold ofL ofL ofL numF
  rw [UInt8.toNat_ofNat_of_lt' (by show _ < 256; exact Nat.mod_lt _ (by omega)), UInt8.toNat_ofNat_of_lt' (by show _ < 256; exact Nat.mod_lt _ (by omega))]
  simp
  omega
theorem len_list (s : ByteArray) : s.data.toList.length = s.size := by rw [Array.length_toList]; rfl
/-- A written sector. -/
theorem kdR_sec {k d : ByteArray} (hk : k.toList = [111] ∨ k.toList = [99]) (n : Nat) (hd : d.size ≤ 333) : kdR (padB (secR k n d)) n = (k, d) := by
  have hk1 : k.data.toList.length = 1 := by
    rcases hk with h | h
    · rw [← ByteArray.toList_eq, h]; rfl
    · rw [← ByteArray.toList_eq, h]; rfl
  have h4 : (numR n 4).data.toList.length = 4 := by rw [len_list, num4_size]
  have h2 : (numR d.size 2).data.toList.length = 2 := by rw [len_list, num2_size]
  have hl : (padB (secR k n d)).data.toList = k.data.toList ++ (numR n 4).data.toList ++ (numR d.size 2).data.toList ++ d.data.toList ++ List.replicate (340 - (secR k n d).size) 0 := by rw [padB_list, secR_list]
  have e0 : (padB (secR k n d)).extract 0 1 = k := list_eq (by
    rw [extract_list, hl]
    have := take_mid [] k.data.toList ((numR n 4).data.toList ++ ((numR d.size 2).data.toList ++ (d.data.toList ++ List.replicate (340 - (secR k n d).size) 0))) 0 1 rfl hk1
    simpa [List.append_assoc] using this)
  have e1 : (padB (secR k n d)).extract 1 5 = numR n 4 := list_eq (by
    rw [extract_list, hl]
    have := take_mid k.data.toList (numR n 4).data.toList ((numR d.size 2).data.toList ++ (d.data.toList ++ List.replicate (340 - (secR k n d).size) 0)) 1 4 hk1 h4
    simpa [List.append_assoc] using this)
  have e2 : (padB (secR k n d)).extract 5 7 = numR d.size 2 := list_eq (by
    rw [extract_list, hl]
    have := take_mid (k.data.toList ++ (numR n 4).data.toList) (numR d.size 2).data.toList (d.data.toList ++ List.replicate (340 - (secR k n d).size) 0) 5 2 (by rw [List.length_append, hk1, h4]) h2
    simpa [List.append_assoc] using this)
  have hz : szR (padB (secR k n d)) = d.size := by
    unfold szR
    rw [e2, numR_list, ofL_two _ (by omega)]
  have e3 : (padB (secR k n d)).extract 7 (7 + d.size) = d := list_eq (by
    rw [extract_list, hl, show 7 + d.size - 7 = d.size by omega]
    have := take_mid (k.data.toList ++ (numR n 4).data.toList ++ (numR d.size 2).data.toList) d.data.toList (List.replicate (340 - (secR k n d).size) 0) 7 d.size (by rw [List.length_append, List.length_append, hk1, h4, h2]) (len_list d)
    simpa [List.append_assoc] using this)
  have hb : conB (padB (secR k n d)) n = true := by
    unfold conB
    rw [e0, e1, hz]
    rcases hk with h | h <;> simp [h, hd]
  unfold kdR
  rw [if_pos hb, e0, hz, e3]
/-- A blank sector is not written. -/
theorem kdR_blank (n : Nat) : kdR (padB ⟨#[]⟩) n = (⟨#[]⟩, ⟨#[]⟩) := by
  have e0 : ((padB ⟨#[]⟩).extract 0 1).toList = [0] := by
    rw [ByteArray.toList_eq, extract_list, padB_list]
    rfl
  have hb : conB (padB ⟨#[]⟩) n = false := by
    unfold conB
    rw [e0]
    simp
  unfold kdR
  rw [hb]
  simp
end Go.Proofs.Ytgkenknplepmeaa
namespace Go.Proofs.Ytgkenknplepmeaa
open Go.RowKit Go.Sort

set_option maxHeartbeats 400000 in
set_option maxRecDepth 100000 in
theorem four_any (n : Nat) (w : World) (hn : n ≤ 4611686018427387904) : Calls Try.prog 76 #[.int .i64 n] w fun e w' => e = .returned (.string (numR n 4)) ∧ Grw w w' := by
  have hnum : ∀ m, ((numF n m).toNat : Int) = (n : Int) / (256 ^ m : Nat) % 256 := fun m => by
    unfold numF
    rw [UInt8.toNat_ofNat_of_lt' (by show _ < 256; exact Nat.mod_lt _ (by omega))]
    simp
  have hback := convert_back (P := Try.prog) (w.alloc (.cells #[.int .u8 ((n : Int) % 256), .int .u8 ((n : Int) / 256 % 256), .int .u8 ((n : Int) / 65536 % 256), .int .u8 ((n : Int) / 16777216 % 256)] 5)) 107 9 5 w.heap.size 4 4 (numF n) Try.underlying107 Try.underlying5 Try.underlying9 (by
    refine ⟨#[.int .u8 ((n : Int) % 256), .int .u8 ((n : Int) / 256 % 256), .int .u8 ((n : Int) / 65536 % 256), .int .u8 ((n : Int) / 16777216 % 256)], 5, _, Blk.new w 5 #[.int .u8 ((n : Int) % 256), .int .u8 ((n : Int) / 256 % 256), .int .u8 ((n : Int) / 65536 % 256), .int .u8 ((n : Int) / 16777216 % 256)], .inr rfl, fun j hj => ?_⟩
    match j, hj with
    | 0, _ => show some (Value.int .u8 _) = some (.int .u8 _); rw [hnum 0]; simp
    | 1, _ => show some (Value.int .u8 _) = some (.int .u8 _); rw [hnum 1]; rfl
    | 2, _ => show some (Value.int .u8 _) = some (.int .u8 _); rw [hnum 2]; rfl
    | 3, _ => show some (Value.int .u8 _) = some (.int .u8 _); rw [hnum 3]; rfl)
  have hb2 : ofBytes 4 (numF n) = numR n 4 := rfl
  rw [hb2] at hback
  clear hnum hb2
  go_enter Try.func76, Try.ntmps76
  go_wp2
  go_ret
  exact ⟨rfl, (Grw.refl w).alloc _⟩
end Go.Proofs.Ytgkenknplepmeaa
