/-
  WALKS: internal/stringslite.HasPrefix, CutPrefix, strings.CutPrefix; row.IsFile, IsMade, Check: what each gives.
-/
import Derived.Test.YtgkenknplepmeaaNameA
namespace Go.Proofs.Ytgkenknplepmeaa
open Go.RowKit

/-- Does s begin with p? -/
def preB (p s : ByteArray) : Bool := decide (p.size ≤ s.size) && ((s.extract 0 p.size).toList == p.toList)

set_option maxHeartbeats 400000 in
set_option maxRecDepth 100000 in
theorem hasPrefix_any (s p : ByteArray) (w : World) : Calls Try.prog 116 #[.string s, .string p] w fun e w' => e = .returned (.bool (preB p s)) ∧ w = w' := by
  unfold preB
  by_cases h : p.size ≤ s.size
  · have hd : (p.size : Int) ≤ (s.size : Int) := by omega
    rw [decide_eq_true h, Bool.true_and]
    go_enter Try.func116, Try.ntmps116
    go_wp2
    go_ret
    exact ⟨rfl, rfl⟩
  · have hd : decide ((p.size : Int) ≤ (s.size : Int)) = false := decide_eq_false (by omega)
    rw [decide_eq_false h, Bool.false_and]
    go_enter Try.func116, Try.ntmps116
    go_wp2
    go_ret
    exact ⟨rfl, rfl⟩

/-- What is left behind a prefix. -/
def cutV (p s : ByteArray) : Value := .tuple #[.string (if preB p s then s.extract p.size s.size else s), .bool (preB p s)]
set_option maxHeartbeats 400000 in
set_option maxRecDepth 100000 in
theorem cutPrefixL_any (s p : ByteArray) (w : World) : Calls Try.prog 107 #[.string s, .string p] w fun e w' => e = .returned (cutV p s) ∧ w = w' := by
  unfold cutV
  have HP := Lib.hid (hasPrefix_any s p w)
  cases hb : preB p s with
  | true =>
    rw [hb] at HP
    have hle : p.size ≤ s.size := by
      unfold preB at hb
      simp at hb
      exact hb.1
    have hd : (p.size : Int) ≤ (s.size : Int) := by omega
    clear hb
    rw [if_pos rfl]
    go_enter Try.func107, Try.ntmps107
    go_wp2_with fail
    refine HP.out.mono ?_
    rintro e w1 ⟨rfl, rfl⟩
    go_wp2
    go_ret2
    exact ⟨rfl, rfl⟩
  | false =>
    rw [hb] at HP
    clear hb
    rw [if_neg (by decide)]
    go_enter Try.func107, Try.ntmps107
    go_wp2_with fail
    refine HP.out.mono ?_
    rintro e w1 ⟨rfl, rfl⟩
    go_wp2
    go_ret2
    exact ⟨rfl, rfl⟩
set_option maxHeartbeats 400000 in
set_option maxRecDepth 100000 in
theorem cutPrefix_any (s p : ByteArray) (w : World) : Calls Try.prog 90 #[.string s, .string p] w fun e w' => e = .returned (cutV p s) ∧ w = w' := by
  have HP := Lib.hid (cutPrefixL_any s p w)
  unfold cutV at HP ⊢
  generalize hx : (if preB p s then s.extract p.size s.size else s) = x at HP ⊢
  generalize hy : preB p s = y at HP ⊢
  clear hx hy
  go_enter Try.func90, Try.ntmps90
  go_wp2_with fail
  refine HP.out.mono ?_
  rintro e w1 ⟨rfl, rfl⟩
  go_wp2
  go_ret2
  exact ⟨rfl, rfl⟩

def pF : ByteArray := ⟨#[102, 47]⟩
def pD : ByteArray := ⟨#[100, 47]⟩
/-- Is a key that of a file (of a record)? -/
def keyB (p s : ByteArray) : Bool := preB p s && nameB (s.extract p.size s.size)
set_option maxHeartbeats 400000 in
set_option maxRecDepth 100000 in
theorem isFile_any (s : ByteArray) (w : World) (hs : s.size ≤ 1000000) : Calls Try.prog 68 #[.string s] w fun e w' => e = .returned (.bool (keyB pF s)) ∧ w = w' := by
  have HP := Lib.hid (cutPrefix_any s pF w)
  unfold cutV at HP
  have HN := Lib.hid (name_any (s.extract pF.size s.size) w (by simp; omega))
  unfold keyB
  cases hb : preB pF s with
  | true =>
    rw [hb] at HP
    rw [Bool.true_and]
    generalize nameB (s.extract pF.size s.size) = n at HN ⊢
    go_enter Try.func68, Try.ntmps68
    go_wp2_with fail
    refine HP.out.mono ?_
    rintro e w1 ⟨rfl, rfl⟩
    go_wp2_with fail
    refine HN.out.mono ?_
    rintro e w1 ⟨rfl, rfl⟩
    go_wp2
    go_ret
    exact ⟨rfl, rfl⟩
  | false =>
    rw [hb] at HP
    rw [Bool.false_and]
    go_enter Try.func68, Try.ntmps68
    go_wp2_with fail
    refine HP.out.mono ?_
    rintro e w1 ⟨rfl, rfl⟩
    go_wp2
    go_ret
    exact ⟨rfl, rfl⟩
set_option maxHeartbeats 400000 in
set_option maxRecDepth 100000 in
theorem isMade_any (s : ByteArray) (w : World) (hs : s.size ≤ 1000000) : Calls Try.prog 69 #[.string s] w fun e w' => e = .returned (.bool (keyB pD s)) ∧ w = w' := by
  have HP := Lib.hid (cutPrefix_any s pD w)
  unfold cutV at HP
  have HN := Lib.hid (name_any (s.extract pD.size s.size) w (by simp; omega))
  unfold keyB
  cases hb : preB pD s with
  | true =>
    rw [hb] at HP
    rw [Bool.true_and]
    generalize nameB (s.extract pD.size s.size) = n at HN ⊢
    go_enter Try.func69, Try.ntmps69
    go_wp2_with fail
    refine HP.out.mono ?_
    rintro e w1 ⟨rfl, rfl⟩
    go_wp2_with fail
    refine HN.out.mono ?_
    rintro e w1 ⟨rfl, rfl⟩
    go_wp2
    go_ret
    exact ⟨rfl, rfl⟩
  | false =>
    rw [hb] at HP
    rw [Bool.false_and]
    go_enter Try.func69, Try.ntmps69
    go_wp2_with fail
    refine HP.out.mono ?_
    rintro e w1 ⟨rfl, rfl⟩
    go_wp2
    go_ret
    exact ⟨rfl, rfl⟩
end Go.Proofs.Ytgkenknplepmeaa
