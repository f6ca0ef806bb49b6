/-
  WALKS: hammerpondref.split and strings.Split at a blank: the lines of a text of at most 100000 bytes, in a row of the call's own.
-/
import Derived.Test.YtkkoflbeggdblaaDoorSplit
import Derived.Test.YtkkoflbeggdblaaDoorSpn
namespace Go.Proofs.YtkkoflbeggdblaaDoor
open Go.RowKit

def SnAt (s : ByteArray) (k fr : Nat) (out : List ByteArray) : Prop := fr ≤ k ∧ spn (s.data.toList.take k) = out.map (·.data.toList) ++ [(s.data.toList.take k).drop fr]
theorem SnAt.start (s : ByteArray) : SnAt s 0 0 [] := ⟨Nat.le_refl _, by simp [spn]⟩
theorem SnAt.blank {s : ByteArray} {k fr : Nat} {out : List ByteArray} (h : SnAt s k fr out) (hk : k < s.size) (hb : s[k] = 10) : SnAt s (k + 1) (k + 1) (out ++ [s.extract fr k]) := by
  refine ⟨Nat.le_refl _, ?_⟩
  rw [take_byte s k hk, spn_snoc _ _ _ _ h.2, if_pos hb, List.map_append]
  have e : (s.data.toList.take k ++ [s[k]]).drop (k + 1) = [] := List.drop_eq_nil_of_le (by simp; omega)
  rw [e]
  simp [ext_data, List.drop_take]
theorem SnAt.other {s : ByteArray} {k fr : Nat} {out : List ByteArray} (h : SnAt s k fr out) (hk : k < s.size) (hb : s[k] ≠ 10) : SnAt s (k + 1) fr out := by
  refine ⟨by have := h.1; omega, ?_⟩
  rw [take_byte s k hk, spn_snoc _ _ _ _ h.2, if_neg hb]
  have h1 := h.1
  have hl : k ≤ s.data.toList.length := by simpa using Nat.le_of_lt hk
  rw [List.drop_append_of_le_length (by rw [List.length_take]; omega)]
theorem SnAt.last {s : ByteArray} {fr : Nat} {out : List ByteArray} (h : SnAt s s.size fr out) : out ++ [s.extract fr s.size] = lines s := by
  apply of_data
  have hs : s.data.toList.take s.size = s.data.toList := List.take_of_length_le (by simp)
  rw [lines_data, ← hs, h.2, List.map_append]
  simp [ext_data, List.drop_take]
theorem spn_len (l : List UInt8) : (spn l).length ≤ l.length + 1 := by
  induction l with
  | nil => simp [spn]
  | cons b l ih =>
    unfold spn
    split
    · simp; omega
    · split
      · simp
      · rename_i e; rw [e] at ih; simp at ih ⊢; omega
theorem SnAt.len {s : ByteArray} {k fr : Nat} {out : List ByteArray} (h : SnAt s k fr out) : out.length ≤ k := by
  have h1 := spn_len (s.data.toList.take k)
  rw [h.2] at h1
  simp at h1
  have : (s.data.toList.take k).length ≤ k := List.length_take_le _ _
  simp at this
  omega
theorem byteN_ne {b : UInt8} (h : ((b.toNat : Int) == 10) = false) : b ≠ 10 := by rintro rfl; simp at h
theorem byteN_eq {b : UInt8} (h : ((b.toNat : Int) == 10) = true) : b = 10 := by
  have h' : (b.toNat : Int) = 10 := by simpa using h
  exact UInt8.toNat_inj.1 (by have : (10 : UInt8).toNat = 10 := rfl; omega)
structure SnRel (w : World) (s : ByteArray) (v f i : Value) (wr : World) : Prop where
  ex : ∃ (k fr : Nat) (out : List ByteArray), k ≤ s.size ∧ i = .int .i64 k ∧ f = .int .i64 fr ∧ SnAt s k fr out ∧ wr.ownsRow w.heap.size 9 1 v out.length (tcells out) ∧ Below w.heap.size w wr

set_option maxHeartbeats 2000000 in
set_option maxRecDepth 100000 in
theorem refSplitN_any (s : ByteArray) (w : World) (hs : s.size ≤ 100000) :
    Calls Tryd.prog 44 #[.string s, .int .u8 10] w fun e w' => ∃ v, e = .returned v ∧ w'.ownsRow w.heap.size 9 1 v (lines s).length (tcells (lines s)) ∧ Below w.heap.size w w' := by
  obtain ⟨i, hi, hz, hsz, hby⟩ := text_parts
  have HI := Lib.hid hi
  have HZ := Lib.hid hz
  have HS := Lib.hid hsz
  have HB := Lib.hid hby
  clear hi hz hsz hby
  go_enter Tryd.func44, Tryd.ntmps44
  go_wp2
  go_loopw [5, 6, 7] (fun v f j wr => SnRel w s v f j wr) (fun _ _ j _ => s.size - (intOf j).toNat)
  case atStart => exact ⟨0, 0, [], Nat.zero_le _, rfl, rfl, SnAt.start s, World.ownsRow_nil _ _ _ _, Below.refl _ _⟩
  case round =>
    obtain ⟨k, fr, out, hk, rfl, rfl, hat, hown, hb⟩ := hrel.ex
    clear hrel
    have hfk := hat.1
    have hol := hat.len
    have HA := Lib.hid hat
    have HO := Lib.hid hown
    clear hat hown
    by_cases hlt : k < s.size
    · have hkz : (k : Int) < (s.size : Int) := by omega
      cases hq : ((s[k].toNat : Int) == 10) with
      | false =>
        have HN := Lib.hid (HA.out.other hlt (byteN_ne hq))
        go_wp2
        go_roundw
        case rel => exact ⟨k + 1, fr, out, by omega, by go_num, rfl, HN.out, HO.out, hb⟩
        case measure => simp [intOf]; omega
      | true =>
        have HN := Lib.hid (HA.out.blank hlt (byteN_eq hq))
        have HO1 := Lib.hid (HO.out.alloc (.cells #[.string (s.extract fr k)] 9))
        have H1 := Lib.hid (RdS_one' wr (s.extract fr k) 9)
        have hb1 : Below w.heap.size w (wr.alloc (.cells #[.string (s.extract fr k)] 9)) := hb.alloc hb.size _
        have hs1 := hb1.size
        go_wp2_with (at_builtin; refine wpList_append_texts _ rfl (.tmp 19) (.tmp 24) _ rfl w.heap.size 9 i _ 16 Tryd.underlying32 HI.out HZ.out HS.out HB.out rfl _ _ _ rfl HO1.out _ _ 1 1 [s.extract fr k] rfl H1.out ?_ ?_ ?_ ?_)
        · unfold maxLen; omega
        · omega
        · simpa using hs1
        intro v2 w2 hown2 hg2
        have hb2 : Below w.heap.size w w2 := hb1.grown hg2 hs1 (fun g' hg' => (HO.out.lt g' hg').1)
        have HV := Lib.hid hown2
        clear hown2 HO1 H1 hs1
        go_wp2
        go_roundw
        case rel => exact ⟨k + 1, k + 1, _, by omega, by go_num, by go_num, HN.out, owns_lenT HV.out, hb2⟩
        case measure => simp [intOf]; omega
    · obtain rfl : k = s.size := by omega
      have HN := Lib.hid HA.out.last
      have HO1 := Lib.hid (HO.out.alloc (.cells #[.string (s.extract fr s.size)] 9))
      have H1 := Lib.hid (RdS_one' wr (s.extract fr s.size) 9)
      have hb1 : Below w.heap.size w (wr.alloc (.cells #[.string (s.extract fr s.size)] 9)) := hb.alloc hb.size _
      have hs1 := hb1.size
      go_wp2_with (at_builtin; refine wpList_append_texts _ rfl (.tmp 28) (.tmp 32) _ rfl w.heap.size 9 i _ 16 Tryd.underlying32 HI.out HZ.out HS.out HB.out rfl _ _ _ rfl HO1.out _ _ 1 1 [s.extract fr s.size] rfl H1.out ?_ ?_ ?_ ?_)
      · unfold maxLen; omega
      · omega
      · simpa using hs1
      intro v2 w2 hown2 hg2
      have hb2 : Below w.heap.size w w2 := hb1.grown hg2 hs1 (fun g' hg' => (HO.out.lt g' hg').1)
      have HV := Lib.hid hown2
      clear hown2 HO1 H1 hs1
      go_wp2
      go_ret
      exact ⟨_, rfl, by have := owns_lenT HV.out; rw [HN.out] at this; exact this, hb2⟩

theorem splitN_any (s : ByteArray) (w : World) (hs : s.size ≤ 100000) (hm : MaxOk w) :
    Calls Tryd.prog 34 #[.string s, .string ⟨#[10]⟩] w fun e w' => e = .returned (.slice (some ⟨w.heap.size, 0, none⟩) (lines s).length (lines s).length) ∧ RdS w' w'.heap.size (some ⟨w.heap.size, 0, none⟩) (lines s).length (lines s).length (lines s) ∧ Below w.heap.size w w' := by
  obtain ⟨m, hm⟩ := hm
  refine (Tryd.strings_Split s ⟨#[10]⟩ m w (by omega) hm (by decide)).mono ?_
  rintro e w' ⟨rfl, rfl⟩
  rw [count_lines, split_lines]
  refine ⟨rfl, ⟨rfl, Nat.le_refl _, ?_, fun _ => ⟨w.heap.size, 0, rfl, by simp, fun j u hu => ?_⟩⟩, (Below.refl _ _).alloc (Nat.le_refl _) _⟩
  · have h1 := spn_len s.data.toList
    have : (lines s).length = (spn s.data.toList).length := by simp [lines]
    unfold maxLen
    simp at h1
    omega
  · rw [World.cell?_alloc_at _ _ _ _ rfl]
    simp [hu]
end Go.Proofs.YtkkoflbeggdblaaDoor
