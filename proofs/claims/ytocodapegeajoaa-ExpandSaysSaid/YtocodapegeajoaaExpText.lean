/-
  THE WALK OF expand.Text: what a text comes to (expR), for texts of at most 1000 bytes and variables of at most 1000 bytes.
-/
import Derived.Test.YtocodapegeajoaaText
namespace Go.Proofs.Ytocodapegeajoaa
open Go.RowKit

theorem text_all (l : List F) (hl : ∀ v ∈ l, v.2.size ≤ 1000) : ∀ k, k ≤ 5 → TEXT l k := by
  intro k
  induction k with
  | zero => intro h; exact text_step l 0 h (value_step l hl 0 h (fun k' e => by omega))
  | succ k ih =>
    intro h
    refine text_step l (k + 1) h (value_step l hl (k + 1) h ?_)
    intro k' e
    have e2 : k' = k := by omega
    rw [e2]
    exact ih (by omega)

set_option maxHeartbeats 1000000 in
set_option maxRecDepth 100000 in
theorem expText_any (A : Option Addr) (n c : Nat) (l : List F) (s : ByteArray) (w : World) (h : RdF w w.heap.size A n c l) (hl : ∀ v ∈ l, v.2.size ≤ 1000) (hn : n ≤ 1000000) (hs : s.size ≤ 1000) (hm : MaxOk w) :
    Calls Try.prog 33 #[.slice A n c, .string s] w fun e w' => e = .returned (.tuple #[.string (ba (expR l 5 s.data.toList).2), errV (expR l 5 s.data.toList).1]) ∧ Below w.heap.size w w' := by
  have hmm := @run_makeMap Try.prog
  obtain ⟨r, hr⟩ : ∃ r, r = expR l 5 s.data.toList := ⟨_, rfl⟩
  rw [← hr]
  have HRR := Lib.hid hr
  clear hr
  have HR := Lib.hid h
  have HM := Lib.hid hm
  have HL := Lib.hid hl
  clear h hm hl
  have hb1 : Below w.heap.size w (w.alloc (.map #[] 0)) := (Below.refl _ _).alloc (Nat.le_refl _) _
  have hme := Memo.made l w
  have hs1 : (w.alloc (.map #[] 0)).heap.size = w.heap.size + 1 := by simp
  have hr1 := HR.out.belowS hb1
  have hx1 := HM.out.below hb1
  have hb2 : Below (w.alloc (.map #[] 0)).heap.size (w.alloc (.map #[] 0)) ((w.alloc (.map #[] 0)).alloc (.cells #[.slice A n c, .map (some w.heap.size)] 83)) := (Below.refl _ _).alloc (Nat.le_refl _) _
  have hc0 : ((w.alloc (.map #[] 0)).alloc (.cells #[.slice A n c, .map (some w.heap.size)] 83)).cell? ⟨(w.alloc (.map #[] 0)).heap.size, 0, none⟩ = some (.slice A n c) := by rw [World.cell?_alloc_at _ _ _ _ rfl]; rfl
  have hc1 : ((w.alloc (.map #[] 0)).alloc (.cells #[.slice A n c, .map (some w.heap.size)] 83)).cell? ⟨(w.alloc (.map #[] 0)).heap.size, 1, none⟩ = some (.map (some w.heap.size)) := by rw [World.cell?_alloc_at _ _ _ _ rfl]; rfl
  rw [hs1] at hc0 hc1
  have HE := Lib.hid (show ExpOk l ((w.alloc (.map #[] 0)).alloc (.cells #[.slice A n c, .map (some w.heap.size)] 83)) (w.heap.size + 1) w.heap.size 0 A n c from ⟨hc0, hc1, hr1.belowS hb2, hme.below hb2, hx1.below hb2⟩)
  have HB := Lib.hid (hb1.trans (hb2.mono (by rw [hs1]; omega)))
  clear hb1 hme hs1 hr1 hx1 hb2 hc0 hc1
  go_enter Try.func33, Try.ntmps33
  go_wp2_with fail
  generalize (w.alloc (.map #[] 0)).alloc (.cells #[.slice A n c, .map (some w.heap.size)] 83) = w2 at *
  refine (text_all l HL.out 5 (Nat.le_refl _) s w2 (w.heap.size + 1) w.heap.size 0 A n c HE.out hn hs ?_).mono ?_
  · have : cst 5 = 1001001001001 := by decide
    rw [this]
    omega
  rintro e w3 ⟨n', hn', rfl, he, hg⟩
  have HB3 := Lib.hid (HB.out.grown hg HB.out.size (fun k hk => by injection hk with hk; omega))
  clear he hg hn' HB HE
  rw [← HRR.out]
  go_wp2
  go_ret2
  exact ⟨rfl, HB3.out⟩
end Go.Proofs.Ytocodapegeajoaa
