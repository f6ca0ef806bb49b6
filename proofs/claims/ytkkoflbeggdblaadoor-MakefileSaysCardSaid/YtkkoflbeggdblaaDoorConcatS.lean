/-
  WALKS: slices.Grow of nil, slices.Concat over slices of texts: what each call gives, for lists of at most a million texts.
-/
import Derived.Test.YtkkoflbeggdblaaDoorSplit
import Derived.Lib.AppendZeros
namespace Go.Proofs.YtkkoflbeggdblaaDoor
open Go.RowKit

set_option maxHeartbeats 1000000 in
set_option maxRecDepth 100000 in
/-- slices.Grow(nil, n): an empty row of the call's own. -/
theorem growS_any (n : Nat) (w : World) (hn : n ≤ 1000000) :
    Calls Tryd.prog 130 #[.slice none 0 0, .int .i64 n] w fun e w' => ∃ v, e = .returned v ∧ w'.ownsRow w.heap.size 9 1 v 0 [] ∧ Below w.heap.size w w' := by
  obtain ⟨i, hi, hz, hsz, hby⟩ := text_parts
  by_cases h0 : n = 0
  · subst h0
    go_enter Tryd.func130, Tryd.ntmps130
    go_wp2
    go_ret
    exact ⟨_, rfl, World.ownsRow_nil _ _ _ _, Below.refl _ _⟩
  · have hr := Lib.run_append_nil_zeros (P := Tryd.prog) w 32 3 32 9 i _ .i64 .i64 Tryd.underlying32 Tryd.underlying3 hi hz n (by omega) (by omega) (by omega) (by rw [hby]; omega)
    have hge := grownCap_ge w n 0 9
    have hcm : grownCap w n 0 9 ≤ maxLen := grownCap_le_maxLen w n 0 9 (by unfold maxLen; omega)
    have hpos : 0 < n := by omega
    have HR := Lib.hid hr
    have HM := Lib.hid hcm
    have HZ := Lib.hid hz
    have hsize : (Builtin.zeroCells (Value.string ByteArray.empty).cells n ++ Builtin.zeroCells (Value.string ByteArray.empty).cells (grownCap w n 0 9 - n)).size = grownCap w n 0 9 * 1 := by
      have e2 : (Value.string ByteArray.empty).cells.size = 1 := rfl
      rw [Array.size_append, size_zeroCells, size_zeroCells, e2]; omega
    have HS := Lib.hid hsize
    clear hr hcm hz hsz hby hi h0 hsize
    go_enter Tryd.func130, Tryd.ntmps130
    go_wp2_with (at_builtin; refine Lib.wpList_append_run _ rfl _ _ _ _ rfl _ _ rfl rfl _ _ HR.out ?_)
    go_ret
    exact ⟨_, rfl, World.ownsRow_made w.drew _ _ (Nat.le_refl _) HM.out HS.out, ((Below.refl _ _).drew).alloc (Nat.le_refl _) _⟩

/-- What a list of slices holds, cell by cell. -/
def RdLS (w : World) (B g off : Nat) (L : List (Option Addr × Nat × Nat × List ByteArray)) : Prop :=
  ∀ j s, L[j]? = some s → w.cell? ⟨g, off + j, none⟩ = some (.slice s.1 s.2.1 s.2.2.1) ∧ RdS w B s.1 s.2.1 s.2.2.1 s.2.2.2
def allFS (L : List (Option Addr × Nat × Nat × List ByteArray)) : List ByteArray := L.flatMap fun s => s.2.2.2
theorem RdLS.keep {w w' : World} {B g off : Nat} {L : List (Option Addr × Nat × Nat × List ByteArray)} (h : RdLS w B g off L) (hg : g < B) (hb : Below B w w') : RdLS w' B g off L :=
  fun j s hs => ⟨(hb.cell (p := ⟨g, off + j, none⟩) hg).trans (h j s hs).1, (h j s hs).2.below hb⟩
theorem allFS_snoc (L : List (Option Addr × Nat × Nat × List ByteArray)) (k : Nat) {s : Option Addr × Nat × Nat × List ByteArray} (h : L[k]? = some s) : allFS (L.take (k + 1)) = allFS (L.take k) ++ s.2.2.2 := by
  have hl := (List.getElem?_eq_some_iff.1 h).1
  rw [List.take_succ_eq_append_getElem hl, allFS, List.flatMap_append]
  have e : L[k] = s := (List.getElem?_eq_some_iff.1 h).2
  rw [e]; simp [allFS]
theorem allFS_mono (L : List (Option Addr × Nat × Nat × List ByteArray)) (k : Nat) : (allFS (L.take k)).length ≤ (allFS L).length := by
  conv => rhs; rw [← List.take_append_drop k L, allFS, List.flatMap_append]
  rw [List.length_append]; exact Nat.le_add_right _ _

def CatRelS (w : World) (n : Nat) (L : List (Option Addr × Nat × Nat × List ByteArray)) (v j : Value) (wr : World) : Prop :=
  ∃ k : Nat, k ≤ n ∧ j = .int .i64 k ∧ wr.ownsRow w.heap.size 9 1 v (allFS (L.take k)).length (tcells (allFS (L.take k))) ∧ Below w.heap.size w wr

set_option maxHeartbeats 2000000 in
set_option maxRecDepth 100000 in
/-- slices.Concat: all the slices' texts, in a row of the call's own. -/
theorem concatS_any (g off c : Nat) (L : List (Option Addr × Nat × Nat × List ByteArray)) (w : World) (hg : g < w.heap.size) (h : RdLS w w.heap.size g off L) (hL : L.length ≤ 1000) (hA : (allFS L).length ≤ 1000000) :
    Calls Tryd.prog 113 #[.slice (some ⟨g, off, none⟩) L.length c] w fun e w' => ∃ v, e = .returned v ∧ w'.ownsRow w.heap.size 9 1 v (allFS L).length (tcells (allFS L)) ∧ Below w.heap.size w w' := by
  obtain ⟨i, hi, hz, hsz, hby⟩ := text_parts
  have HI := Lib.hid hi
  have HZ := Lib.hid hz
  have HS := Lib.hid hsz
  have HB := Lib.hid hby
  have HR := Lib.hid h
  clear hi hz hsz hby h
  generalize hn : L.length = n at *
  have HN := Lib.hid hn
  clear hn
  go_enter Tryd.func113, Tryd.ntmps113
  go_wp2
  go_loop [3, 11] (fun s j => ∃ k : Nat, k ≤ n ∧ j = .int .i64 k ∧ s = .int .i64 ((allFS (L.take k)).length : Nat)) (fun _ j => n - (intOf j).toNat)
  case atStart => exact ⟨0, Nat.zero_le _, rfl, by simp [allFS]⟩
  case round =>
    obtain ⟨k, hk, rfl, rfl⟩ := hrel
    by_cases hlt : k < n
    · obtain ⟨s, hs⟩ : ∃ s, L[k]? = some s := ⟨_, List.getElem?_eq_getElem (by rw [HN.out]; exact hlt)⟩
      obtain ⟨hc, hr⟩ := HR.out k s hs
      have hsn := allFS_snoc L k hs
      have hmo := allFS_mono L (k + 1)
      have hlen : (allFS (L.take (k + 1))).length = (allFS (L.take k)).length + s.2.1 := by rw [hsn, List.length_append, hr.1]
      have H1 := Lib.hid hlen
      rw [hlen] at hmo
      clear hsn hlen hr hs
      generalize (allFS (L.take k)).length = t at *
      obtain ⟨A, m, d, l⟩ := s
      have hmo' : t + m ≤ (allFS L).length := hmo
      have ht : t ≤ 1000000 := by omega
      have hm : m ≤ 1000000 := by omega
      clear hmo hmo'
      go_wp2
      go_round
      case rel => exact ⟨k + 1, by omega, by go_num, by rw [H1.out]; go_num⟩
      case measure => simp [intOf]; omega
    · obtain rfl : k = n := by omega
      have e : L.take k = L := List.take_of_length_le (by rw [HN.out]; omega)
      rw [e]
      go_wp2_with fail
      refine (growS_any _ _ hA).mono ?_
      rintro e w1 ⟨v1, rfl, hown1, hb1⟩
      have HW := Lib.hid hown1
      clear hown1
      go_wp2
      go_loopw [6, 27] (fun v j wr => CatRelS w k L v j wr) (fun _ j _ => k - (intOf j).toNat)
      case atStart => exact ⟨0, Nat.zero_le _, rfl, by simpa [allFS, tcells] using HW.out, hb1⟩
      case round =>
        obtain ⟨q, hq, rfl, hown, hb⟩ := hrel
        have HO := Lib.hid hown
        clear hown HW
        by_cases hlt2 : q < k
        · obtain ⟨s, hs⟩ : ∃ s, L[q]? = some s := ⟨_, List.getElem?_eq_getElem (by rw [HN.out]; exact hlt2)⟩
          obtain ⟨hc, hr⟩ := (HR.out.keep hg hb) q s hs
          have hsn := allFS_snoc L q hs
          have hmo := allFS_mono L (q + 1)
          rw [hsn, List.length_append, hr.1] at hmo
          have H1 := Lib.hid hsn
          have H2 := Lib.hid hr
          clear hsn hr hs
          obtain ⟨A, m, d, l⟩ := s
          have hmo' : (allFS (L.take q)).length + m ≤ (allFS L).length := hmo
          clear hmo
          go_wp2_with (at_builtin; refine wpList_append_texts _ rfl (.tmp 31) (.tmp 32) _ rfl w.heap.size 9 i _ 16 Tryd.underlying32 HI.out HZ.out HS.out HB.out rfl _ _ _ rfl HO.out w.heap.size A m d l rfl H2.out ?_ ?_ ?_ ?_)
          · unfold maxLen; omega
          · omega
          · exact hb.size
          intro v2 w2 hown2 hg2
          have hb2 : Below w.heap.size w w2 := hb.grown hg2 hb.size (fun g' hg' => (HO.out.lt g' hg').1)
          have HV := Lib.hid hown2
          clear hown2 HO hmo' H2 hc
          go_wp2
          go_roundw
          case rel => exact ⟨q + 1, by omega, by go_num, by rw [H1.out, List.length_append]; have e1 := HV.out; have e2 := e1.1; rw [tcells_len, List.length_append] at e2; rw [show (allFS (L.take q)).length + l.length = (allFS (L.take q)).length + m by omega]; exact e1, hb2⟩
          case measure => simp [intOf]; omega
        · obtain rfl : q = k := by omega
          go_wp2
          go_ret
          exact ⟨_, rfl, by have := HO.out; rw [List.take_of_length_le (by rw [HN.out]; omega)] at this; exact this, hb⟩
end Go.Proofs.YtkkoflbeggdblaaDoor
