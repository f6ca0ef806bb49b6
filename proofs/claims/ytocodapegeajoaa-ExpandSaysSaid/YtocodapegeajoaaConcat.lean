/-
  WALKS: slices.Grow of nil, slices.Concat, files.Put, files.Drop over slices of files: what each call gives, for lists of at most a million files.
-/
import Derived.Test.YtocodapegeajoaaSearch
import Derived.Lib.AppendZeros
namespace Go.Proofs.Ytocodapegeajoaa
open Go.RowKit

theorem file_info : (Try.prog.info? 24).map (fun i => (i.zero, i.size, i.bytes)) = some (some (.agg #[.string ByteArray.empty, .string ByteArray.empty]), 2, 32) := by kernel_rfl
theorem file_parts : ∃ i, Try.prog.info? 24 = some i ∧ i.zero = some (.agg #[.string ByteArray.empty, .string ByteArray.empty]) ∧ i.size = 2 ∧ i.bytes = 32 := by
  have h := file_info
  cases e : Try.prog.info? 24 with
  | none => rw [e] at h; cases h
  | some i =>
    rw [e] at h
    simp only [Option.map_some, Option.some.injEq, Prod.mk.injEq] at h
    exact ⟨i, rfl, h.1, h.2.1, h.2.2⟩

set_option maxHeartbeats 1000000 in
set_option maxRecDepth 100000 in
/-- slices.Grow(nil, n): an empty row of the call's own. -/
theorem grow_any (n : Nat) (w : World) (hn : n ≤ 1000000) :
    Calls Try.prog 62 #[.slice none 0 0, .int .i64 n] w fun e w' => ∃ v, e = .returned v ∧ w'.ownsRow w.heap.size 24 2 v 0 [] ∧ Below w.heap.size w w' := by
  obtain ⟨i, hi, hz, hsz, hby⟩ := file_parts
  by_cases h0 : n = 0
  · subst h0
    go_enter Try.func62, Try.ntmps62
    go_wp2
    go_ret
    exact ⟨_, rfl, World.ownsRow_nil _ _ _ _, Below.refl _ _⟩
  · have hr := Lib.run_append_nil_zeros (P := Try.prog) w 22 3 22 24 i _ .i64 .i64 Try.underlying22 Try.underlying3 hi hz n (by omega) (by omega) (by omega) (by rw [hby]; omega)
    have hge := grownCap_ge w n 0 24
    have hcm : grownCap w n 0 24 ≤ maxLen := grownCap_le_maxLen w n 0 24 (by unfold maxLen; omega)
    have hpos : 0 < n := by omega
    have HR := Lib.hid hr
    have HM := Lib.hid hcm
    have HZ := Lib.hid hz
    have hsize : (Builtin.zeroCells (Value.agg #[.string ByteArray.empty, .string ByteArray.empty]).cells n ++ Builtin.zeroCells (Value.agg #[.string ByteArray.empty, .string ByteArray.empty]).cells (grownCap w n 0 24 - n)).size = grownCap w n 0 24 * 2 := by
      have e2 : (Value.agg #[.string ByteArray.empty, .string ByteArray.empty]).cells.size = 2 := rfl
      rw [Array.size_append, size_zeroCells, size_zeroCells, e2]; omega
    have HS := Lib.hid hsize
    clear hr hcm hz hsz hby hi h0 hsize
    go_enter Try.func62, Try.ntmps62
    go_wp2_with (at_builtin; refine Lib.wpList_append_run _ rfl _ _ _ _ rfl _ _ rfl rfl _ _ HR.out ?_)
    go_ret
    exact ⟨_, rfl, World.ownsRow_made w.drew _ _ (Nat.le_refl _) HM.out HS.out, ((Below.refl _ _).drew).alloc (Nat.le_refl _) _⟩

/-- What a list of slices holds, cell by cell. -/
def RdL (w : World) (B g off : Nat) (L : List (Option Addr × Nat × Nat × List F)) : Prop :=
  ∀ j s, L[j]? = some s → w.cell? ⟨g, off + j, none⟩ = some (.slice s.1 s.2.1 s.2.2.1) ∧ RdF w B s.1 s.2.1 s.2.2.1 s.2.2.2
def allF (L : List (Option Addr × Nat × Nat × List F)) : List F := L.flatMap fun s => s.2.2.2
theorem RdL.keep {w w' : World} {B g off : Nat} {L : List (Option Addr × Nat × Nat × List F)} (h : RdL w B g off L) (hg : g < B) (hb : Below B w w') : RdL w' B g off L :=
  fun j s hs => ⟨(hb.cell (p := ⟨g, off + j, none⟩) hg).trans (h j s hs).1, (h j s hs).2.below hb⟩
theorem allF_snoc (L : List (Option Addr × Nat × Nat × List F)) (k : Nat) {s : Option Addr × Nat × Nat × List F} (h : L[k]? = some s) : allF (L.take (k + 1)) = allF (L.take k) ++ s.2.2.2 := by
  have hl := (List.getElem?_eq_some_iff.1 h).1
  rw [List.take_succ_eq_append_getElem hl, allF, List.flatMap_append]
  have e : L[k] = s := (List.getElem?_eq_some_iff.1 h).2
  rw [e]; simp [allF]
theorem allF_mono (L : List (Option Addr × Nat × Nat × List F)) (k : Nat) : (allF (L.take k)).length ≤ (allF L).length := by
  conv => rhs; rw [← List.take_append_drop k L, allF, List.flatMap_append]
  rw [List.length_append]; exact Nat.le_add_right _ _

def CatRel (w : World) (n : Nat) (L : List (Option Addr × Nat × Nat × List F)) (v j : Value) (wr : World) : Prop :=
  ∃ k : Nat, k ≤ n ∧ j = .int .i64 k ∧ wr.ownsRow w.heap.size 24 2 v (allF (L.take k)).length (fcells (allF (L.take k))) ∧ Below w.heap.size w wr

set_option maxHeartbeats 2000000 in
set_option maxRecDepth 100000 in
/-- slices.Concat: all the slices' files, in a row of the call's own. -/
theorem concat_any (g off c : Nat) (L : List (Option Addr × Nat × Nat × List F)) (w : World) (hg : g < w.heap.size) (h : RdL w w.heap.size g off L) (hL : L.length ≤ 1000) (hA : (allF L).length ≤ 1000000) :
    Calls Try.prog 46 #[.slice (some ⟨g, off, none⟩) L.length c] w fun e w' => ∃ v, e = .returned v ∧ w'.ownsRow w.heap.size 24 2 v (allF L).length (fcells (allF L)) ∧ Below w.heap.size w w' := by
  obtain ⟨i, hi, hz, hsz, hby⟩ := file_parts
  have HI := Lib.hid hi
  have HZ := Lib.hid hz
  have HS := Lib.hid hsz
  have HB := Lib.hid hby
  have HR := Lib.hid h
  clear hi hz hsz hby h
  generalize hn : L.length = n at *
  have HN := Lib.hid hn
  clear hn
  go_enter Try.func46, Try.ntmps46
  go_wp2
  go_loop [3, 11] (fun s j => ∃ k : Nat, k ≤ n ∧ j = .int .i64 k ∧ s = .int .i64 ((allF (L.take k)).length : Nat)) (fun _ j => n - (intOf j).toNat)
  case atStart => exact ⟨0, Nat.zero_le _, rfl, by simp [allF]⟩
  case round =>
    obtain ⟨k, hk, rfl, rfl⟩ := hrel
    by_cases hlt : k < n
    · obtain ⟨s, hs⟩ : ∃ s, L[k]? = some s := ⟨_, List.getElem?_eq_getElem (by rw [HN.out]; exact hlt)⟩
      obtain ⟨hc, hr⟩ := HR.out k s hs
      have hsn := allF_snoc L k hs
      have hmo := allF_mono L (k + 1)
      have hlen : (allF (L.take (k + 1))).length = (allF (L.take k)).length + s.2.1 := by rw [hsn, List.length_append, hr.1]
      have H1 := Lib.hid hlen
      rw [hlen] at hmo
      clear hsn hlen hr hs
      generalize (allF (L.take k)).length = t at *
      obtain ⟨A, m, d, l⟩ := s
      have hmo' : t + m ≤ (allF L).length := hmo
      have ht : t ≤ 1000000 := by omega
      have hm : m ≤ 1000000 := by omega
      clear hmo hmo'
      go_wp2
      go_round
      case rel => exact ⟨k + 1, by omega, by go_num, by rw [H1.out]; go_num⟩
      case measure => simp [intOf]; omega
    · obtain rfl : k = n := by omega
      have e : L.take k = L := List.take_of_length_le (by rw [HN.out]; omega)
      rw [e]
      go_wp2_with fail
      refine (grow_any _ _ hA).mono ?_
      rintro e w1 ⟨v1, rfl, hown1, hb1⟩
      have HW := Lib.hid hown1
      clear hown1
      go_wp2
      go_loopw [6, 27] (fun v j wr => CatRel w k L v j wr) (fun _ j _ => k - (intOf j).toNat)
      case atStart => exact ⟨0, Nat.zero_le _, rfl, by simpa [allF, fcells] using HW.out, hb1⟩
      case round =>
        obtain ⟨q, hq, rfl, hown, hb⟩ := hrel
        have HO := Lib.hid hown
        clear hown HW
        by_cases hlt2 : q < k
        · obtain ⟨s, hs⟩ : ∃ s, L[q]? = some s := ⟨_, List.getElem?_eq_getElem (by rw [HN.out]; exact hlt2)⟩
          obtain ⟨hc, hr⟩ := (HR.out.keep hg hb) q s hs
          have hsn := allF_snoc L q hs
          have hmo := allF_mono L (q + 1)
          rw [hsn, List.length_append, hr.1] at hmo
          have H1 := Lib.hid hsn
          have H2 := Lib.hid hr
          clear hsn hr hs
          obtain ⟨A, m, d, l⟩ := s
          have hmo' : (allF (L.take q)).length + m ≤ (allF L).length := hmo
          clear hmo
          go_wp2_with (at_builtin; refine wpList_append_files _ rfl (.tmp 31) (.tmp 32) _ rfl w.heap.size 24 i _ 32 Try.underlying22 HI.out HZ.out HS.out HB.out rfl _ _ _ rfl HO.out w.heap.size A m d l rfl H2.out ?_ ?_ ?_ ?_)
          · unfold maxLen; omega
          · omega
          · exact hb.size
          intro v2 w2 hown2 hg2
          have hb2 : Below w.heap.size w w2 := hb.grown hg2 hb.size (fun g' hg' => (HO.out.lt g' hg').1)
          have HV := Lib.hid hown2
          clear hown2 HO hmo' H2 hc
          go_wp2
          go_roundw
          case rel => exact ⟨q + 1, by omega, by go_num, by rw [H1.out, List.length_append]; have e1 := HV.out; have e2 := e1.1; rw [fcells_len, List.length_append] at e2; rw [show (allF (L.take q)).length + l.length = (allF (L.take q)).length + m by omega]; exact e1, hb2⟩
          case measure => simp [intOf]; omega
        · obtain rfl : q = k := by omega
          go_wp2
          go_ret
          exact ⟨_, rfl, by have := HO.out; rw [List.take_of_length_le (by rw [HN.out]; omega)] at this; exact this, hb⟩
end Go.Proofs.Ytocodapegeajoaa
