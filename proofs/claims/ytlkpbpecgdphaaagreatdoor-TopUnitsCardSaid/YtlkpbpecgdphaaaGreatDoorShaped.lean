/-
  WALKS: makefile.words, isPattern, slices.ContainsFunc and IndexFunc at isPattern, makefile.wellShaped, strings.Replace of the first '%'.
-/
import Derived.Test.YtlkpbpecgdphaaaGreatDoorMkSpec
import Derived.Test.YtlkpbpecgdphaaaGreatDoorClone
import Derived.Test.YtlkpbpecgdphaaaGreatDoorMax
import Derived.Lib.AppendZeros
import Derived.Test.YtlkpbpecgdphaaaGreatDoorAddCmd
namespace Go.Proofs.YtlkpbpecgdphaaaGreatDoor
open Go.RowKit

theorem ext_data (s : ByteArray) (a b : Nat) : (s.extract a b).data.toList = (s.data.toList.take b).drop a := by
  rw [Lib.extract_data]
  simp [List.drop_take]
theorem take_byte (s : ByteArray) (k : Nat) (h : k < s.size) : s.data.toList.take (k + 1) = s.data.toList.take k ++ [s[k]] := by
  rw [List.take_succ_eq_append_getElem (by simpa using h)]; rfl
def SpAt (s : ByteArray) (k fr : Nat) (out : List ByteArray) : Prop := fr ≤ k ∧ spl (s.data.toList.take k) = out.map (·.data.toList) ++ [(s.data.toList.take k).drop fr]
theorem SpAt.start (s : ByteArray) : SpAt s 0 0 [] := ⟨Nat.le_refl _, by simp [spl]⟩
theorem SpAt.blank {s : ByteArray} {k fr : Nat} {out : List ByteArray} (h : SpAt s k fr out) (hk : k < s.size) (hb : s[k] = 32) : SpAt s (k + 1) (k + 1) (out ++ [s.extract fr k]) := by
  refine ⟨Nat.le_refl _, ?_⟩
  rw [take_byte s k hk, spl_snoc _ _ _ _ h.2, if_pos hb, List.map_append]
  have e : (s.data.toList.take k ++ [s[k]]).drop (k + 1) = [] := List.drop_eq_nil_of_le (by simp; omega)
  rw [e]
  simp [List.drop_take]
theorem SpAt.other {s : ByteArray} {k fr : Nat} {out : List ByteArray} (h : SpAt s k fr out) (hk : k < s.size) (hb : s[k] ≠ 32) : SpAt s (k + 1) fr out := by
  refine ⟨by have := h.1; omega, ?_⟩
  rw [take_byte s k hk, spl_snoc _ _ _ _ h.2, if_neg hb]
  have h1 := h.1
  have hl : k ≤ s.data.toList.length := by simpa using Nat.le_of_lt hk
  rw [List.drop_append_of_le_length (by rw [List.length_take]; omega)]
theorem SpAt.last {s : ByteArray} {fr : Nat} {out : List ByteArray} (h : SpAt s s.size fr out) : out ++ [s.extract fr s.size] = words s := by
  apply of_data
  have hs : s.data.toList.take s.size = s.data.toList := List.take_of_length_le (by simp)
  rw [words_data, ← hs, h.2, List.map_append]
  simp [List.drop_take]
theorem spl_len (l : List UInt8) : (spl l).length ≤ l.length + 1 := by
  induction l with
  | nil => simp [spl]
  | cons b l ih =>
    unfold spl
    split
    · simp; omega
    · split
      · simp
      · rename_i e; rw [e] at ih; simp at ih ⊢; omega
theorem SpAt.len {s : ByteArray} {k fr : Nat} {out : List ByteArray} (h : SpAt s k fr out) : out.length ≤ k := by
  have h1 := spl_len (s.data.toList.take k)
  rw [h.2] at h1
  simp at h1
  have : (s.data.toList.take k).length ≤ k := List.length_take_le _ _
  simp at this
  omega
theorem byte_ne {b : UInt8} (h : ((b.toNat : Int) == 32) = false) : b ≠ 32 := by rintro rfl; simp at h
theorem byte_eq {b : UInt8} (h : ((b.toNat : Int) == 32) = true) : b = 32 := by
  have h' : (b.toNat : Int) = 32 := by simpa using h
  exact UInt8.toNat_inj.1 (by have : (32 : UInt8).toNat = 32 := rfl; omega)
theorem tcells_len (l : List ByteArray) : (tcells l).length = l.length := by simp [tcells]
theorem owns_lenT {w : World} {base : Nat} {e : TypeId} {v : Value} {n : Nat} {l : List ByteArray} (h : w.ownsRow base e 1 v n (tcells l)) : w.ownsRow base e 1 v l.length (tcells l) := by
  have : l.length = n := by have := h.1; rw [tcells_len] at this; omega
  rw [this]; exact h
theorem RdS_one' (w : World) (x : ByteArray) (e : TypeId) : RdS (w.alloc (.cells #[.string x] e)) (w.heap.size + 1) (some ⟨w.heap.size, 0, none⟩) 1 1 [x] := by
  refine ⟨rfl, Nat.le_refl _, by unfold maxLen; omega, fun _ => ⟨w.heap.size, 0, rfl, by omega, fun j u hu => ?_⟩⟩
  rw [World.cell?_alloc_at _ _ _ _ rfl]
  match j with
  | 0 => simpa using hu
  | j + 1 => simp at hu

structure SpRel (w : World) (s : ByteArray) (v f i : Value) (wr : World) : Prop where
  ex : ∃ (k fr : Nat) (out : List ByteArray), k ≤ s.size ∧ i = .int .i64 k ∧ f = .int .i64 fr ∧ SpAt s k fr out ∧ wr.ownsRow w.heap.size 9 1 v out.length (tcells out) ∧ Below w.heap.size w wr

set_option maxHeartbeats 2000000 in
set_option maxRecDepth 100000 in
theorem refSplit_any (s : ByteArray) (w : World) (hs : s.size ≤ 100000) :
    Calls Tryz.prog 33 #[.string s, .int .u8 32] w fun e w' => ∃ v, e = .returned v ∧ w'.ownsRow w.heap.size 9 1 v (words s).length (tcells (words s)) ∧ Below w.heap.size w w' := by
  obtain ⟨i, hi, hz, hsz, hby⟩ := text_parts
  have HI := Lib.hid hi
  have HZ := Lib.hid hz
  have HS := Lib.hid hsz
  have HB := Lib.hid hby
  clear hi hz hsz hby
  go_enter Tryz.func33, Tryz.ntmps33
  go_wp2
  go_loopw [5, 6, 7] (fun v f j wr => SpRel w s v f j wr) (fun _ _ j _ => s.size - (intOf j).toNat)
  case atStart => exact ⟨0, 0, [], Nat.zero_le _, rfl, rfl, SpAt.start s, World.ownsRow_nil _ _ _ _, Below.refl _ _⟩
  case round =>
    obtain ⟨k, fr, out, hk, rfl, rfl, hat, hown, hb⟩ := hrel.ex
    clear hrel
    have hfk := hat.1
    have hol := hat.len
    have HA := Lib.hid hat
    have HO := Lib.hid hown
    clear hat hown
    by_cases hlt : k < s.size
    · have hkz : (k : Int) < (s.size : Int) := by omega
      cases hq : ((s[k].toNat : Int) == 32) with
      | false =>
        have HN := Lib.hid (HA.out.other hlt (byte_ne hq))
        go_wp2
        go_roundw
        case rel => exact ⟨k + 1, fr, out, by omega, by go_num, rfl, HN.out, HO.out, hb⟩
        case measure => simp [intOf]; omega
      | true =>
        have HN := Lib.hid (HA.out.blank hlt (byte_eq hq))
        have HO1 := Lib.hid (HO.out.alloc (.cells #[.string (s.extract fr k)] 9))
        have H1 := Lib.hid (RdS_one' wr (s.extract fr k) 9)
        have hb1 : Below w.heap.size w (wr.alloc (.cells #[.string (s.extract fr k)] 9)) := hb.alloc hb.size _
        have hs1 := hb1.size
        go_wp2_with (at_builtin; refine wpList_append_texts _ rfl (.tmp 19) (.tmp 24) _ rfl w.heap.size 9 i _ 16 Tryz.underlying27 HI.out HZ.out HS.out HB.out rfl _ _ _ rfl HO1.out _ _ 1 1 [s.extract fr k] rfl H1.out ?_ ?_ ?_ ?_)
        · unfold maxLen; omega
        · omega
        · simpa using hs1
        intro v2 w2 hown2 hg2
        have hb2 : Below w.heap.size w w2 := hb1.grown hg2 hs1 (fun g' hg' => (HO.out.lt g' hg').1)
        have HV := Lib.hid hown2
        clear hown2 HO1 H1 hs1
        go_wp2
        go_roundw
        case rel => exact ⟨k + 1, k + 1, _, by omega, by go_num, by go_num, HN.out, owns_lenT HV.out, hb2⟩
        case measure => simp [intOf]; omega
    · obtain rfl : k = s.size := by omega
      have HN := Lib.hid HA.out.last
      have HO1 := Lib.hid (HO.out.alloc (.cells #[.string (s.extract fr s.size)] 9))
      have H1 := Lib.hid (RdS_one' wr (s.extract fr s.size) 9)
      have hb1 : Below w.heap.size w (wr.alloc (.cells #[.string (s.extract fr s.size)] 9)) := hb.alloc hb.size _
      have hs1 := hb1.size
      go_wp2_with (at_builtin; refine wpList_append_texts _ rfl (.tmp 28) (.tmp 32) _ rfl w.heap.size 9 i _ 16 Tryz.underlying27 HI.out HZ.out HS.out HB.out rfl _ _ _ rfl HO1.out _ _ 1 1 [s.extract fr s.size] rfl H1.out ?_ ?_ ?_ ?_)
      · unfold maxLen; omega
      · omega
      · simpa using hs1
      intro v2 w2 hown2 hg2
      have hb2 : Below w.heap.size w w2 := hb1.grown hg2 hs1 (fun g' hg' => (HO.out.lt g' hg').1)
      have HV := Lib.hid hown2
      clear hown2 HO1 H1 hs1
      go_wp2
      go_ret
      exact ⟨_, rfl, by have := owns_lenT HV.out; rw [HN.out] at this; exact this, hb2⟩

theorem split_any (s : ByteArray) (w : World) (hs : s.size ≤ 100000) (hm : MaxOk w) :
    Calls Tryz.prog 49 #[.string s, .string ⟨#[32]⟩] w fun e w' => e = .returned (.slice (some ⟨w.heap.size, 0, none⟩) (words s).length (words s).length) ∧ RdS w' w'.heap.size (some ⟨w.heap.size, 0, none⟩) (words s).length (words s).length (words s) ∧ Below w.heap.size w w' := by
  obtain ⟨m, hm⟩ := hm
  refine (Tryz.strings_Split s ⟨#[32]⟩ m w (by omega) hm (by decide)).mono ?_
  rintro e w' ⟨rfl, rfl⟩
  rw [count_words, split_words]
  refine ⟨rfl, ⟨rfl, Nat.le_refl _, ?_, fun _ => ⟨w.heap.size, 0, rfl, by simp, fun j u hu => ?_⟩⟩, (Below.refl _ _).alloc (Nat.le_refl _) _⟩
  · have h1 := spl_len s.data.toList
    have : (words s).length = (spl s.data.toList).length := by simp [words]
    unfold maxLen
    simp at h1
    omega
  · rw [World.cell?_alloc_at _ _ _ _ rfl]
    simp [hu]
end Go.Proofs.YtlkpbpecgdphaaaGreatDoor
namespace Go.Proofs.YtlkpbpecgdphaaaGreatDoor
open Go.RowKit

set_option maxHeartbeats 1000000 in
set_option maxRecDepth 100000 in
/-- slices.Grow(nil, n): an empty row of the call's own. -/
theorem growS_any (n : Nat) (w : World) (hn : n ≤ 1000000) :
    Calls Tryz.prog 175 #[.slice none 0 0, .int .i64 n] w fun e w' => ∃ v, e = .returned v ∧ w'.ownsRow w.heap.size 9 1 v 0 [] ∧ Below w.heap.size w w' := by
  obtain ⟨i, hi, hz, hsz, hby⟩ := text_parts
  by_cases h0 : n = 0
  · subst h0
    go_enter Tryz.func175, Tryz.ntmps175
    go_wp2
    go_ret
    exact ⟨_, rfl, World.ownsRow_nil _ _ _ _, Below.refl _ _⟩
  · have hr := Lib.run_append_nil_zeros (P := Tryz.prog) w 27 3 27 9 i _ .i64 .i64 Tryz.underlying27 Tryz.underlying3 hi hz n (by omega) (by omega) (by omega) (by rw [hby]; omega)
    have hge := grownCap_ge w n 0 9
    have hcm : grownCap w n 0 9 ≤ maxLen := grownCap_le_maxLen w n 0 9 (by unfold maxLen; omega)
    have hpos : 0 < n := by omega
    have HR := Lib.hid hr
    have HM := Lib.hid hcm
    have HZ := Lib.hid hz
    have hsize : (Builtin.zeroCells (Value.string ByteArray.empty).cells n ++ Builtin.zeroCells (Value.string ByteArray.empty).cells (grownCap w n 0 9 - n)).size = grownCap w n 0 9 * 1 := by
      have e2 : (Value.string ByteArray.empty).cells.size = 1 := rfl
      rw [Array.size_append, size_zeroCells, size_zeroCells, e2]; omega
    have HS := Lib.hid hsize
    clear hr hcm hz hsz hby hi h0 hsize
    go_enter Tryz.func175, Tryz.ntmps175
    go_wp2_with (at_builtin; refine Lib.wpList_append_run _ rfl _ _ _ _ rfl _ _ rfl rfl _ _ HR.out ?_)
    go_ret
    exact ⟨_, rfl, World.ownsRow_made w.drew _ _ (Nat.le_refl _) HM.out HS.out, ((Below.refl _ _).drew).alloc (Nat.le_refl _) _⟩

/-- What a list of slices holds, cell by cell. -/
def RdLS (w : World) (B g off : Nat) (L : List (Option Addr × Nat × Nat × List ByteArray)) : Prop :=
  ∀ j s, L[j]? = some s → w.cell? ⟨g, off + j, none⟩ = some (.slice s.1 s.2.1 s.2.2.1) ∧ RdS w B s.1 s.2.1 s.2.2.1 s.2.2.2
def allFS (L : List (Option Addr × Nat × Nat × List ByteArray)) : List ByteArray := L.flatMap fun s => s.2.2.2
theorem RdLS.keep {w w' : World} {B g off : Nat} {L : List (Option Addr × Nat × Nat × List ByteArray)} (h : RdLS w B g off L) (hg : g < B) (hb : Below B w w') : RdLS w' B g off L :=
  fun j s hs => ⟨(hb.cell (p := ⟨g, off + j, none⟩) hg).trans (h j s hs).1, (h j s hs).2.below hb⟩
theorem allFS_snoc (L : List (Option Addr × Nat × Nat × List ByteArray)) (k : Nat) {s : Option Addr × Nat × Nat × List ByteArray} (h : L[k]? = some s) : allFS (L.take (k + 1)) = allFS (L.take k) ++ s.2.2.2 := by
  have hl := (List.getElem?_eq_some_iff.1 h).1
  rw [List.take_succ_eq_append_getElem hl, allFS, List.flatMap_append]
  have e : L[k] = s := (List.getElem?_eq_some_iff.1 h).2
  rw [e]; simp [allFS]
theorem allFS_mono (L : List (Option Addr × Nat × Nat × List ByteArray)) (k : Nat) : (allFS (L.take k)).length ≤ (allFS L).length := by
  conv => rhs; rw [← List.take_append_drop k L, allFS, List.flatMap_append]
  rw [List.length_append]; exact Nat.le_add_right _ _

def CatRelS (w : World) (n : Nat) (L : List (Option Addr × Nat × Nat × List ByteArray)) (v j : Value) (wr : World) : Prop :=
  ∃ k : Nat, k ≤ n ∧ j = .int .i64 k ∧ wr.ownsRow w.heap.size 9 1 v (allFS (L.take k)).length (tcells (allFS (L.take k))) ∧ Below w.heap.size w wr

set_option maxHeartbeats 2000000 in
set_option maxRecDepth 100000 in
/-- slices.Concat: all the slices' texts, in a row of the call's own. -/
theorem concatS_any (g off c : Nat) (L : List (Option Addr × Nat × Nat × List ByteArray)) (w : World) (hg : g < w.heap.size) (h : RdLS w w.heap.size g off L) (hL : L.length ≤ 1000) (hA : (allFS L).length ≤ 1000000) :
    Calls Tryz.prog 156 #[.slice (some ⟨g, off, none⟩) L.length c] w fun e w' => ∃ v, e = .returned v ∧ w'.ownsRow w.heap.size 9 1 v (allFS L).length (tcells (allFS L)) ∧ Below w.heap.size w w' := by
  obtain ⟨i, hi, hz, hsz, hby⟩ := text_parts
  have HI := Lib.hid hi
  have HZ := Lib.hid hz
  have HS := Lib.hid hsz
  have HB := Lib.hid hby
  have HR := Lib.hid h
  clear hi hz hsz hby h
  generalize hn : L.length = n at *
  have HN := Lib.hid hn
  clear hn
  go_enter Tryz.func156, Tryz.ntmps156
  go_wp2
  go_loop [3, 11] (fun s j => ∃ k : Nat, k ≤ n ∧ j = .int .i64 k ∧ s = .int .i64 ((allFS (L.take k)).length : Nat)) (fun _ j => n - (intOf j).toNat)
  case atStart => exact ⟨0, Nat.zero_le _, rfl, by simp [allFS]⟩
  case round =>
    obtain ⟨k, hk, rfl, rfl⟩ := hrel
    by_cases hlt : k < n
    · obtain ⟨s, hs⟩ : ∃ s, L[k]? = some s := ⟨_, List.getElem?_eq_getElem (by rw [HN.out]; exact hlt)⟩
      obtain ⟨hc, hr⟩ := HR.out k s hs
      have hsn := allFS_snoc L k hs
      have hmo := allFS_mono L (k + 1)
      have hlen : (allFS (L.take (k + 1))).length = (allFS (L.take k)).length + s.2.1 := by rw [hsn, List.length_append, hr.1]
      have H1 := Lib.hid hlen
      rw [hlen] at hmo
      clear hsn hlen hr hs
      generalize (allFS (L.take k)).length = t at *
      obtain ⟨A, m, d, l⟩ := s
      have hmo' : t + m ≤ (allFS L).length := hmo
      have ht : t ≤ 1000000 := by omega
      have hm : m ≤ 1000000 := by omega
      clear hmo hmo'
      go_wp2
      go_round
      case rel => exact ⟨k + 1, by omega, by go_num, by rw [H1.out]; go_num⟩
      case measure => simp [intOf]; omega
    · obtain rfl : k = n := by omega
      have e : L.take k = L := List.take_of_length_le (by rw [HN.out]; omega)
      rw [e]
      go_wp2_with fail
      refine (growS_any _ _ hA).mono ?_
      rintro e w1 ⟨v1, rfl, hown1, hb1⟩
      have HW := Lib.hid hown1
      clear hown1
      go_wp2
      go_loopw [6, 27] (fun v j wr => CatRelS w k L v j wr) (fun _ j _ => k - (intOf j).toNat)
      case atStart => exact ⟨0, Nat.zero_le _, rfl, by simpa [allFS, tcells] using HW.out, hb1⟩
      case round =>
        obtain ⟨q, hq, rfl, hown, hb⟩ := hrel
        have HO := Lib.hid hown
        clear hown HW
        by_cases hlt2 : q < k
        · obtain ⟨s, hs⟩ : ∃ s, L[q]? = some s := ⟨_, List.getElem?_eq_getElem (by rw [HN.out]; exact hlt2)⟩
          obtain ⟨hc, hr⟩ := (HR.out.keep hg hb) q s hs
          have hsn := allFS_snoc L q hs
          have hmo := allFS_mono L (q + 1)
          rw [hsn, List.length_append, hr.1] at hmo
          have H1 := Lib.hid hsn
          have H2 := Lib.hid hr
          clear hsn hr hs
          obtain ⟨A, m, d, l⟩ := s
          have hmo' : (allFS (L.take q)).length + m ≤ (allFS L).length := hmo
          clear hmo
          go_wp2_with (at_builtin; refine wpList_append_texts _ rfl (.tmp 31) (.tmp 32) _ rfl w.heap.size 9 i _ 16 Tryz.underlying27 HI.out HZ.out HS.out HB.out rfl _ _ _ rfl HO.out w.heap.size A m d l rfl H2.out ?_ ?_ ?_ ?_)
          · unfold maxLen; omega
          · omega
          · exact hb.size
          intro v2 w2 hown2 hg2
          have hb2 : Below w.heap.size w w2 := hb.grown hg2 hb.size (fun g' hg' => (HO.out.lt g' hg').1)
          have HV := Lib.hid hown2
          clear hown2 HO hmo' H2 hc
          go_wp2
          go_roundw
          case rel => exact ⟨q + 1, by omega, by go_num, by rw [H1.out, List.length_append]; have e1 := HV.out; have e2 := e1.1; rw [tcells_len, List.length_append] at e2; rw [show (allFS (L.take q)).length + l.length = (allFS (L.take q)).length + m by omega]; exact e1, hb2⟩
          case measure => simp [intOf]; omega
        · obtain rfl : q = k := by omega
          go_wp2
          go_ret
          exact ⟨_, rfl, by have := HO.out; rw [List.take_of_length_le (by rw [HN.out]; omega)] at this; exact this, hb⟩
end Go.Proofs.YtlkpbpecgdphaaaGreatDoor
namespace Go.Proofs.YtlkpbpecgdphaaaGreatDoor
open Go.RowKit

theorem blank_gives (w : World) : PredAt Tryz.prog 154 #[] encR isBlank w := by
  intro W x _
  show Calls Tryz.prog 154 #[encR x] W _
  unfold encR
  have hd : isBlank x = ((x : Int) == 32) := by
    unfold isBlank
    rw [Bool.eq_iff_iff, decide_eq_true_eq, beq_iff_eq]
    omega
  rw [hd]
  go_enter Tryz.func154, Tryz.ntmps154
  go_wp2
  go_ret
  exact ⟨rfl, 0, rfl⟩
def WdPost (l : Bs) (w : World) (e : Ending) (w' : World) : Prop := ∃ A, e = .returned (.slice (some ⟨A, 0, none⟩) (wordsR l).length (wordsR l).length) ∧ w.heap.size ≤ A ∧ Own1 w' w.heap.size (.slice (some ⟨A, 0, none⟩) (wordsR l).length (wordsR l).length) (wordsR l) ∧ Below w.heap.size w w'
theorem words_any (s : ByteArray) (w : World) (hs : s.size ≤ 1000000) : Calls Tryz.prog 124 #[.string s] w (WdPost s.data.toList w) := by
  go_enter Tryz.func124, Tryz.ntmps124
  go_wp2_with fail
  refine (Tryz.strings_FieldsFunc 154 #[] (enters_of Tryz.func154 (by kernel_rfl) rfl) isBlank s w (by omega) (blank_gives w)).mono ?_
  rw [goFields_blank]
  rintro e w' ⟨A, rfl, hA, hown, hb⟩
  have HO := Lib.hid (show Own1 w' w.heap.size (.slice (some ⟨A, 0, none⟩) (wordsR s.data.toList).length (wordsR s.data.toList).length) (wordsR s.data.toList) from hown)
  have HB := Lib.hid hb
  clear hown hb
  have e1 : (List.map ba (fieldsB s.data.toList)) = wordsR s.data.toList := rfl
  rw [e1]
  go_wp2
  go_ret
  exact ⟨A, rfl, hA, HO.out, HB.out⟩
theorem contains37 (s : ByteArray) : Lib.contains s.data.toList [37] = patB s := by
  unfold Lib.contains patB
  rw [Bool.eq_iff_iff, decide_eq_true_eq, decide_eq_true_eq]
  generalize s.data.toList = l
  induction l with
  | nil => simp [Lib.index]
  | cons b l ih =>
    unfold Lib.index
    by_cases hb : b = 37
    · subst hb
      simp [List.isPrefixOf]
    · have h1 : ([37] : Bs).isPrefixOf (b :: l) = false := by simp [List.isPrefixOf, Ne.symm hb]
      rw [h1]
      simp only [Bool.false_eq_true, if_false, List.mem_cons]
      have hge := Lib.index_ge l [37]
      have hb' : ¬ (37 : UInt8) = b := fun e => hb e.symm
      split
      · rename_i h2
        have h2' : Lib.index l [37] = -1 := by simpa using h2
        rw [h2'] at ih
        constructor
        · intro h; omega
        · rintro (h | h)
          · exact absurd h hb'
          · have := ih.2 h; omega
      · rename_i h2
        have h2' : Lib.index l [37] ≠ -1 := by simpa using h2
        constructor
        · intro _; exact .inr (ih.1 (by omega))
        · intro _; omega
theorem isPattern_any (s : ByteArray) (w : World) (hs : s.size ≤ 1000000) (hm : MaxOk w) : Calls Tryz.prog 155 #[.string s] w fun e w' => e = .returned (.bool (patB s)) ∧ w = w' := by
  obtain ⟨m, hm⟩ := hm
  rw [← contains37]
  go_enter Tryz.func155, Tryz.ntmps155
  go_wp2_with fail
  refine (Tryz.strings_Contains s ⟨#[37]⟩ m w (by omega) hm).mono ?_
  rintro e w' ⟨rfl, rfl⟩
  go_wp2
  go_ret
  exact ⟨rfl, rfl⟩

def IfRel (l : List ByteArray) (i : Value) : Prop := ∃ k : Nat, k ≤ l.length ∧ i = .int .i64 k ∧ ∀ j g, j < k → l[j]? = some g → patB g = false
theorem anyPat_at {l : List ByteArray} {k : Nat} {f : ByteArray} (h : l[k]? = some f) (e : patB f = true) : l.any patB = true := by
  rw [List.any_eq_true]
  exact ⟨f, List.mem_of_getElem? h, e⟩
theorem anyPat_no {l : List ByteArray} (h : ∀ j g, j < l.length → l[j]? = some g → patB g = false) : l.any patB = false := by
  rw [List.any_eq_false]
  intro f hf
  obtain ⟨j, hj, e⟩ := List.mem_iff_getElem.1 hf
  have := h j f hj (by rw [List.getElem?_eq_getElem hj, e])
  rw [this]
  simp
set_option maxHeartbeats 1000000 in
set_option maxRecDepth 100000 in
theorem indexFunc_any (A : Option Addr) (n c : Nat) (l : List ByteArray) (w : World) (h : RdS w w.heap.size A n c l) (hn : n ≤ 1000000) (hs : ∀ x ∈ l, x.size ≤ 1000000) (hm : MaxOk w) :
    Calls Tryz.prog 129 #[.slice A n c, .func (.func 155) #[] #[]] w fun e w' => ∃ i : Int, e = .returned (.int .i64 i) ∧ l.any patB = decide (0 ≤ i) ∧ w = w' := by
  have HR := Lib.hid h
  have HL := Lib.hid h.1
  have HM := Lib.hid hm
  have HSZ := Lib.hid hs
  have he := enters_of Tryz.func155 (by kernel_rfl) rfl
  clear h hm hs
  go_enter Tryz.func129, Tryz.ntmps129
  go_wp2
  go_loop [8] (fun i => IfRel l i) (fun i => n - (intOf i).toNat)
  case atStart => exact ⟨0, Nat.zero_le _, rfl, fun j g h => by omega⟩
  case round =>
    obtain ⟨k, hk, rfl, hno⟩ := hrel
    have hkn : k ≤ n := by rw [← HL.out]; exact hk
    clear hk
    have HN := Lib.hid hno
    clear hno
    by_cases hlt : k < n
    · obtain ⟨f, hf⟩ : ∃ f, l[k]? = some f := ⟨_, List.getElem?_eq_getElem (by rw [HL.out]; exact hlt)⟩
      obtain ⟨b', off, rfl, _, hc1⟩ := HR.out.at_ hf
      have hkz : (k : Int) < (n : Int) := by omega
      have hfs : f.size ≤ 1000000 := HSZ.out f (List.mem_of_getElem? hf)
      have HF := Lib.hid hf
      clear hf
      go_wp2_with fail
      refine (isPattern_any f w hfs HM.out).mono ?_
      rintro e w' ⟨rfl, rfl⟩
      cases hq : patB f with
      | true =>
        have HX := Lib.hid (anyPat_at HF.out hq)
        go_wp2
        go_ret
        exact ⟨k, rfl, by rw [HX.out]; simp, rfl⟩
      | false =>
        go_wp2
        go_round
        case rel =>
          refine ⟨k + 1, by rw [HL.out]; omega, by go_num, fun j g hj hg => ?_⟩
          rcases Nat.lt_or_ge j k with h1 | h1
          · exact HN.out j g h1 hg
          · obtain rfl : j = k := by omega
            have e1 := HF.out
            rw [e1] at hg
            injection hg with hg
            subst hg
            exact hq
        case measure => simp [intOf]; omega
    · obtain rfl : k = n := by omega
      have H1 := Lib.hid (anyPat_no (l := l) (fun j g hj hg => HN.out j g (by rw [← HL.out]; exact hj) hg))
      go_wp2
      go_ret
      exact ⟨-1, rfl, by rw [H1.out]; rfl, rfl⟩
theorem containsFunc_any (A : Option Addr) (n c : Nat) (l : List ByteArray) (w : World) (h : RdS w w.heap.size A n c l) (hn : n ≤ 1000000) (hs : ∀ x ∈ l, x.size ≤ 1000000) (hm : MaxOk w) :
    Calls Tryz.prog 94 #[.slice A n c, .func (.func 155) #[] #[]] w fun e w' => e = .returned (.bool (l.any patB)) ∧ w = w' := by
  have HR := Lib.hid h
  have HM := Lib.hid hm
  have HS := Lib.hid hs
  clear h hm hs
  generalize hh : l.any patB = b
  have HH := Lib.hid hh
  clear hh
  go_enter Tryz.func94, Tryz.ntmps94
  go_wp2_with fail
  refine (indexFunc_any A n c l w HR.out hn HS.out HM.out).mono ?_
  rintro e w1 ⟨i, rfl, hi, rfl⟩
  rw [HH.out] at hi
  have HI := Lib.hid hi
  clear hi
  go_wp2
  go_ret
  exact ⟨by rw [HI.out]; rfl, rfl⟩
theorem replace_once (s : ByteArray) : (⟨(Lib.replace s.data.toList [37] [97] 1).toArray⟩ : ByteArray) = onceR s := by
  unfold Lib.replace onceR
  rw [if_neg (by decide)]
  have hge := Lib.index_ge s.data.toList [37]
  by_cases h : Lib.index s.data.toList [37] = -1
  · rw [cut_none h]
    have hc : Lib.count s.data.toList [37] = 0 := by
      unfold Lib.count Lib.countFrom
      simp [h]
    have hn : Lib.replaceNum s.data.toList [37] 1 = 0 := by unfold Lib.replaceNum; rw [hc]; simp
    rw [hn]
    simp only [Lib.replaceK, Bool.false_eq_true, if_false]
  · obtain ⟨i, ei⟩ : ∃ i : Nat, Lib.index s.data.toList [37] = i := ⟨(Lib.index s.data.toList [37]).toNat, by omega⟩
    rw [cut_at ei]
    have hc : 1 ≤ Lib.count s.data.toList [37] := by
      unfold Lib.count Lib.countFrom
      have : (Lib.index s.data.toList [37] == -1) = false := by rw [beq_eq_false_iff_ne]; exact h
      rw [this]
      simp
    have hn : Lib.replaceNum s.data.toList [37] 1 = 1 := by unfold Lib.replaceNum; rw [if_neg (by omega)]; rfl
    rw [hn, Lib.replaceK_hit _ _ _ _ i ei]
    simp [Lib.replaceK, ba]
theorem replace_any (s : ByteArray) (w : World) (hs : s.size ≤ 1000000) (hm : MaxOk w) : Calls Tryz.prog 133 #[.string s, .string ⟨#[37]⟩, .string ⟨#[97]⟩, .int .i64 1] w fun e w' => e = .returned (.string (onceR s)) ∧ Below w.heap.size w w' := by
  obtain ⟨m, hm⟩ := hm
  refine (Tryz.strings_Replace s ⟨#[37]⟩ ⟨#[97]⟩ 1 m w (by omega) hm (by decide) ?_).mono ?_
  · have h1 : Lib.countB s ⟨#[37]⟩ ≤ s.size := by
      have : Lib.countB s ⟨#[37]⟩ = s.data.toList.count 37 := Lib.count_one 37 _
      rw [this]
      have := List.count_le_length (a := (37 : UInt8)) (l := s.data.toList)
      simpa using this
    have h2 : (⟨#[97]⟩ : ByteArray).size = 1 := rfl
    rw [h2]
    omega
  · rintro e w' ⟨rfl, hb⟩
    exact ⟨by rw [← replace_once], hb⟩
end Go.Proofs.YtlkpbpecgdphaaaGreatDoor
