/-
  WALK: hammerpondref.Decimal of a number that is not below 0: its numeral.
-/
import Derived.Test.YtpghfefiifhbiaaGreatDoorRcB
import Derived.Test.YtpghfefiifhbiaaGreatDoorByF
import Derived.RegionTactic
import Derived.Deep.RegionLaw
import Derived.Shelf.SlSortCmp.QuietGrown
namespace Go.Proofs.YtpghfefiifhbiaaGreatDoor
open Go.RowKit Go.Sort

theorem cv1 (W : World) (g : Nat) (z : Int) (c : UInt8) (hz : z = (c.toNat : Int)) (h : Blk W g 5 #[.int .u8 z]) : (convert 53 9 (.slice (some ⟨g, 0, none⟩) 1 1)).run Tryz.prog W = .ok (.string ⟨#[c]⟩) W := by
  have := convert_back (P := Tryz.prog) W 53 9 5 g 1 1 (fun _ => c) Tryz.underlying53 Tryz.underlying5 Tryz.underlying9 ⟨_, _, _, h, .inr rfl, fun j hj => by
    match j, hj with
    | 0, _ => show some (Value.int .u8 z) = _; rw [hz]⟩
  exact this
theorem ofNat_z {k : Nat} (h : k < 10) : (48 + (k : Int)) = ((UInt8.ofNat (48 + k)).toNat : Int) := by rw [ofNat_dg h]; omega

/-- The world has drawn, and blocks have been laid behind it: nothing else has turned. -/
def Gr (w w' : World) : Prop := ∃ q os, w' = grow (w.drewN q) os
theorem Gr.refl (w : World) : Gr w w := ⟨0, #[], by rw [grow_empty]; rfl⟩
theorem Gr.trans {a b c : World} (h : Gr a b) (k : Gr b c) : Gr a c := by
  obtain ⟨q, os, rfl⟩ := h
  obtain ⟨q', os', rfl⟩ := k
  exact ⟨q + q', os ++ os', by show grow (grow ((a.drewN q).drewN q') os) os' = _; rw [grow_grow, World.drewN_drewN]⟩
theorem Gr.alloc {w w' : World} (h : Gr w w') (o : Obj) : Gr w (w'.alloc o) := h.trans ⟨0, #[o], by rw [alloc_eq_grow]; rfl⟩
theorem Gr.drew {w w' : World} (h : Gr w w') : Gr w w'.drew := h.trans ⟨1, #[], by rw [grow_empty]; rfl⟩
theorem Gr.below {w w' : World} (h : Gr w w') : Below w.heap.size w w' := by
  obtain ⟨q, os, rfl⟩ := h
  exact below_grows w q os
set_option maxRecDepth 100000 in
set_option maxHeartbeats 2000000 in
theorem decimal_any : ∀ (n : Nat) (w : World), n ≤ 1000000000 → Calls Tryz.prog 30 #[.int .i64 n] w fun e w' => e = .returned (.string (ba (numL n))) ∧ Gr w w' := by
  intro n
  induction n using Nat.strongRecOn with
  | ind n ih =>
    intro w hn
    by_cases h : n < 10
    · have hnz : (n : Int) < 10 := by omega
      have h0 : decide ((n : Int) < 0) = false := decide_eq_false (by omega)
      obtain ⟨c, hc⟩ : ∃ c, c = UInt8.ofNat (48 + n) := ⟨_, rfl⟩
      have hcv := cv1 (w.alloc (.cells #[.int .u8 (48 + (n : Int))] 5)) w.heap.size (48 + (n : Int)) c (by rw [hc]; exact ofNat_z h) (Blk.new w _ _)
      have HE := Lib.hid (show ba (numL n) = (⟨#[c]⟩ : ByteArray) by rw [numL_small h, hc]; rfl)
      clear ih hc
      go_enter Tryz.func30, Tryz.ntmps30
      go_wp2
      go_ret
      exact ⟨by rw [HE.out]; rfl, (Gr.refl _).alloc _⟩
    · have hnz : decide ((n : Int) < 10) = false := decide_eq_false (by omega)
      have h0 : decide ((n : Int) < 0) = false := decide_eq_false (by omega)
      have IH := Lib.hid (fun W => ih (n / 10) (by omega) W (by omega))
      rw [show ((n / 10 : Nat) : Int) = (n : Int) / 10 by omega] at IH
      have hz1 : (0 : Int) ≤ (n : Int) / 10 := by omega
      have hz2 : (0 : Int) ≤ (n : Int) % 10 := by omega
      have hz3 : (n : Int) % 10 < 10 := by omega
      have hmz : ((n % 10 : Nat) : Int) = (n : Int) % 10 := by omega
      have hoz := ofNat_z (k := n % 10) (by omega)
      rw [hmz] at hoz
      have HOZ := Lib.hid hoz
      obtain ⟨c, hc⟩ : ∃ c, c = UInt8.ofNat (48 + n % 10) := ⟨_, rfl⟩
      rw [← hc] at HOZ
      have HE := Lib.hid (show ba (numL n) = (ba (numL (n / 10)) ++ (⟨#[c]⟩ : ByteArray)) by rw [numL_big h, ba_append, hc]; rfl)
      obtain ⟨s, hs⟩ : ∃ s, s = ba (numL (n / 10)) := ⟨_, rfl⟩
      have hsl : s.size ≤ 9 := by rw [hs, ba_size]; exact numL_len (by omega)
      rw [← hs] at IH HE
      clear hc hs
      clear ih hmz hoz
      go_enter Tryz.func30, Tryz.ntmps30
      go_wp2_with fail
      have hc1 : ∀ W : World, (convert 53 9 (.slice (some ⟨W.heap.size, 0, none⟩) 1 1)).run Tryz.prog (W.alloc (.cells #[.int .u8 (48 + (n : Int) % 10)] 5)) = .ok (.string ⟨#[c]⟩) (W.alloc (.cells #[.int .u8 (48 + (n : Int) % 10)] 5)) := fun W => cv1 _ _ _ _ HOZ.out (Blk.new W _ _)
      have hc2 := cv1 ((w.alloc (.cells #[.int .u8 (48 + (n : Int) % 10)] 5)).drew) w.heap.size (48 + (n : Int) % 10) c HOZ.out (Blk.new w _ _)
      have hw1 : IntKind.i64.wrap ((n : Int) / 10) = (n : Int) / 10 := by rw [IntKind.wrap_i64]; omega
      have hw2 : (n : Int).tmod 10 = (n : Int) % 10 := Int.tmod_eq_emod_of_nonneg (by omega)
      have hw3 : IntKind.i64.wrap (48 + (n : Int) % 10) = 48 + (n : Int) % 10 := by rw [IntKind.wrap_i64]; omega
      have hw4 : IntKind.u8.wrap (48 + (n : Int) % 10) = 48 + (n : Int) % 10 := by simp [IntKind.wrap, IntKind.bits, IntKind.signed]; omega
      have hsn : ¬ (9223372036854775807 < s.size + 1) := by omega
      have hsn2 : (9223372036854775807 < s.size + 1) = False := eq_false hsn
      go_region_law
        (first
          | (go_simp; (with_reducible refine (IH.out w.drew).mono ?_); (rintro e w2 ⟨rfl, hb2⟩; have HB2 := Lib.hid ((Gr.refl w).drew.trans hb2); clear hb2; (try dsimp only)))
          | (go_simp; (with_reducible refine (IH.out ((w.alloc (.cells #[.int .u8 (48 + (n : Int) % 10)] 5)).drew)).mono ?_); (rintro e w2 ⟨rfl, hb2⟩; have hcB := cv1 w2 w.heap.size (48 + (n : Int) % 10) c HOZ.out ((hb2.below.block w.heap.size (by show w.heap.size < (w.alloc _).heap.size; simp)).trans (Blk.new w _ _)); have HB2 := Lib.hid ((((Gr.refl w).alloc (.cells #[.int .u8 (48 + (n : Int) % 10)] 5)).drew).trans hb2); clear hb2; (try dsimp only))))
      all_goals (
        clear hc1 hc2 hw1 hw2 hw3 hw4 hsn hsn2
        go_wp2
        go_ret
        refine ⟨by rw [HE.out]; rfl, ?_⟩
        first
          | exact HB2.out.alloc _
          | exact (HB2.out.alloc _).drew
          | exact HB2.out)
end Go.Proofs.YtpghfefiifhbiaaGreatDoor
