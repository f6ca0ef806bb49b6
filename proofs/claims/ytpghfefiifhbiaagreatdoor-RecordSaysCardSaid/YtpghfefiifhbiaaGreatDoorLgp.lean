/-
  WALK: hammerpondlaw.LightGroup.
-/
import Derived.Test.YtpghfefiifhbiaaGreatDoorTexts
namespace Go.Proofs.YtpghfefiifhbiaaGreatDoor
open Go.RowKit

def LgPost (needs targets cmds : List ByteArray) (w : World) (e : Ending) (w' : World) : Prop :=
  ∃ b, e = .returned (.bool b) ∧ (b = true → ShortT targets 4 20 ∧ ShortT needs 5 20 ∧ ShortT cmds 5 100) ∧ Below w.heap.size w w'

set_option maxHeartbeats 1000000 in
set_option maxRecDepth 100000 in
theorem lightGroup_any (ph : Bool) (An At Ac : Option Addr) (nn cn nt ct nc cc : Nat) (needs targets cmds : List ByteArray) (w : World)
    (h1 : RdS w w.heap.size An nn cn needs) (h2 : RdS w w.heap.size At nt ct targets) (h3 : RdS w w.heap.size Ac nc cc cmds) :
    Calls Tryz.prog 5 #[.agg #[.slice At nt ct, .slice An nn cn, .slice Ac nc cc, .bool ph]] w (LgPost needs targets cmds w) := by
  have hb0 : Below w.heap.size w (w.alloc (.cells #[.slice At nt ct, .slice An nn cn, .slice Ac nc cc, .bool ph] 24)) := (Below.refl _ _).alloc (Nat.le_refl _) _
  have H1 := Lib.hid (h1.belowS hb0)
  have H2 := Lib.hid (h2.belowS hb0)
  have H3 := Lib.hid (h3.belowS hb0)
  have z1 : (w.alloc (.cells #[.slice At nt ct, .slice An nn cn, .slice Ac nc cc, .bool ph] 24)).cell? ⟨w.heap.size, 1, none⟩ = some (.slice An nn cn) := by rw [World.cell?_alloc_at _ _ _ _ rfl]; rfl
  have z2 : (w.alloc (.cells #[.slice At nt ct, .slice An nn cn, .slice Ac nc cc, .bool ph] 24)).cell? ⟨w.heap.size, 2, none⟩ = some (.slice Ac nc cc) := by rw [World.cell?_alloc_at _ _ _ _ rfl]; rfl
  have Z1 := Lib.hid z1
  have Z2 := Lib.hid z2
  clear h1 h2 h3 z1 z2
  go_enter Tryz.func5, Tryz.ntmps5
  go_wp2_with fail
  generalize w.alloc (.cells #[.slice At nt ct, .slice An nn cn, .slice Ac nc cc, .bool ph] 24) = w1 at *
  have z1 := Z1.out
  have z2 := Z2.out
  refine (lightTexts_any At nt ct targets 4 20 w1 H2.out (by omega) (by omega)).mono ?_
  rintro e w4 ⟨b, rfl, hl1, rfl⟩
  have HL1 := Lib.hid hl1
  clear hl1
  cases b with
  | false =>
    go_wp2
    go_ret
    exact ⟨false, rfl, (by intro h; cases h), hb0⟩
  | true =>
    go_wp2_with fail
    refine (lightTexts_any An nn cn needs 5 20 w1 H1.out (by omega) (by omega)).mono ?_
    rintro e w4 ⟨b, rfl, hl1, rfl⟩
    have HL2 := Lib.hid hl1
    clear hl1
    cases b with
    | false =>
      go_wp2
      go_ret
      exact ⟨false, rfl, (by intro h; cases h), hb0⟩
    | true =>
      go_wp2_with fail
      refine (lightTexts_any Ac nc cc cmds 5 100 w1 H3.out (by omega) (by omega)).mono ?_
      rintro e w4 ⟨b, rfl, hl1, rfl⟩
      have HL3 := Lib.hid hl1
      clear hl1
      cases b with
      | false =>
        go_wp2
        go_ret
        exact ⟨false, rfl, (by intro h; cases h), hb0⟩
      | true =>
        go_wp2
        go_ret
        exact ⟨true, rfl, fun _ => ⟨HL1.out (by simp), HL2.out (by simp), HL3.out (by simp)⟩, hb0⟩
end Go.Proofs.YtpghfefiifhbiaaGreatDoor
