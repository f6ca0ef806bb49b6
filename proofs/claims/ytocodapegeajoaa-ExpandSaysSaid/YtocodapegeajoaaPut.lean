/-
  WALKS: files.Put: what the call gives for a slice that reads as a sorted list of at most 900000 files.
-/
import Derived.Test.YtocodapegeajoaaConcat
namespace Go.Proofs.Ytocodapegeajoaa
open Go.RowKit

theorem owns_less {w : World} {base base' : Nat} {e : TypeId} {size : Nat} {v : Value} {n : Nat} {xs : List Value} (h : w.ownsRow base e size v n xs) (hb : base' ≤ base) : w.ownsRow base' e size v n xs := by
  refine ⟨h.1, ?_⟩
  rcases h.2 with h2 | ⟨g, cap, cur, hv, hg, r⟩
  · exact .inl h2
  · exact .inr ⟨g, cap, cur, hv, Nat.le_trans hb hg, r⟩

theorem RdL_one {w : World} {g off : Nat} {B : Nat} {A : Option Addr} {n c : Nat} {l : List F} (hc : w.cell? ⟨g, off, none⟩ = some (.slice A n c)) (h : RdF w B A n c l)
    {L : List (Option Addr × Nat × Nat × List F)} (hL : RdL w B g (off + 1) L) : RdL w B g off ((A, n, c, l) :: L) := by
  intro j s hs
  cases j with
  | zero => simp at hs; subst hs; exact ⟨hc, h⟩
  | succ j =>
    have := hL j s (by simpa using hs)
    rw [show off + 1 + j = off + (j + 1) by omega] at this
    exact this
theorem RdL_nil {w : World} {g off : Nat} {B : Nat} : RdL w B g off [] := by
  intro j s hs
  simp at hs

set_option maxHeartbeats 1000000 in
set_option maxRecDepth 100000 in
/-- files.Put. -/
theorem put_any (A : Option Addr) (n c : Nat) (l : List F) (x t : ByteArray) (w : World) (h : RdF w w.heap.size A n c l) (hs : Rises l) (hn : n ≤ 900000) :
    Calls Try.prog 19 #[.slice A n c, .agg #[.string x, .string t]] w fun e w' => ∃ v, e = .returned v ∧ w'.ownsRow w.heap.size 24 2 v (putF l (x, t)).length (fcells (putF l (x, t))) ∧ Below w.heap.size w w' := by
  have hle := len_put_le hs (x, t)
  rw [h.1] at hle
  have hb0 : Below w.heap.size w (w.alloc (.cells #[.string x, .string t] 24)) := (Below.refl _ _).alloc (Nat.le_refl _) _
  have HR := Lib.hid ((h.below hb0).more hb0.size)
  clear h
  go_enter Try.func19, Try.ntmps19
  go_wp2_with fail
  refine (around_any A n c l x (w.alloc (.cells #[.string x, .string t] 24)) HR.out hs (by omega)).mono ?_
  rintro e w1 ⟨A1, n1, c1, A2, n2, c2, rfl, h1, h2, hb⟩
  have hc0 : w1.cell? ⟨w.heap.size, 0, none⟩ = some (.string x) := by
    rw [hb.cell (p := ⟨w.heap.size, 0, none⟩) (by simp), World.cell?_alloc_at _ _ _ _ rfl]; rfl
  have hc1 : w1.cell? ⟨w.heap.size, 1, none⟩ = some (.string t) := by
    rw [hb.cell (p := ⟨w.heap.size, 1, none⟩) (by simp), World.cell?_alloc_at _ _ _ _ rfl]; rfl
  have H1 := Lib.hid h1
  have H2 := Lib.hid h2
  clear h1 h2
  go_wp2_with fail
  have hs0 : w.heap.size ≤ w1.heap.size := by have := hb.size; simp at this; omega
  have hbw1 : Below w.heap.size w w1 := hb0.trans (hb.mono (by simp))
  have h1 := H1.out
  have h2 := H2.out
  clear H1 H2
  have hbx : Below (w.alloc (.cells #[.string x, .string t] 24)).heap.size (w.alloc (.cells #[.string x, .string t] 24)) ((w1.alloc (.cells #[.string x, .string t] 24)).alloc (.cells #[.slice A1 n1 c1, .slice (some ⟨w1.heap.size, 0, none⟩) 1 1, .slice A2 n2 c2] 22)) :=
    (hb.alloc hb.size _).alloc (by have := hb.size; simp at this ⊢; omega) _
  have hbw : Below w.heap.size w ((w1.alloc (.cells #[.string x, .string t] 24)).alloc (.cells #[.slice A1 n1 c1, .slice (some ⟨w1.heap.size, 0, none⟩) 1 1, .slice A2 n2 c2] 22)) :=
    (hbw1.alloc hs0 _).alloc (by simp; omega) _
  have g1 := (h1.below hbx).more hbx.size
  have g2 := (h2.below hbx).more hbx.size
  have gm : RdF ((w1.alloc (.cells #[.string x, .string t] 24)).alloc (.cells #[.slice A1 n1 c1, .slice (some ⟨w1.heap.size, 0, none⟩) 1 1, .slice A2 n2 c2] 22)) ((w1.alloc (.cells #[.string x, .string t] 24)).alloc (.cells #[.slice A1 n1 c1, .slice (some ⟨w1.heap.size, 0, none⟩) 1 1, .slice A2 n2 c2] 22)).heap.size (some ⟨w1.heap.size, 0, none⟩) 1 1 [(x, t)] := by
    refine ⟨rfl, Nat.le_refl _, by unfold maxLen; omega, fun _ => ⟨w1.heap.size, 0, rfl, by simp; omega, fun j u hu => ?_⟩⟩
    rw [World.cell?_alloc_past _ _ _ (by simp), World.cell?_alloc_at _ _ _ _ rfl]
    match j with
    | 0 => simpa [fcells] using hu
    | 1 => simpa [fcells] using hu
    | j + 2 => simp [fcells] at hu
  have hr : RdL ((w1.alloc (.cells #[.string x, .string t] 24)).alloc (.cells #[.slice A1 n1 c1, .slice (some ⟨w1.heap.size, 0, none⟩) 1 1, .slice A2 n2 c2] 22)) ((w1.alloc (.cells #[.string x, .string t] 24)).alloc (.cells #[.slice A1 n1 c1, .slice (some ⟨w1.heap.size, 0, none⟩) 1 1, .slice A2 n2 c2] 22)).heap.size (w1.heap.size + 1) 0 [(A1, n1, c1, lo l x), (some ⟨w1.heap.size, 0, none⟩, 1, 1, [(x, t)]), (A2, n2, c2, hi l x)] :=
    RdL_one (by rw [World.cell?_alloc_at _ _ _ _ (by simp)]; rfl) g1 (RdL_one (by rw [World.cell?_alloc_at _ _ _ _ (by simp)]; rfl) gm (RdL_one (by rw [World.cell?_alloc_at _ _ _ _ (by simp)]; rfl) g2 RdL_nil))
  clear g1 g2 gm h1 h2 hbx
  have e1 : allF [(A1, n1, c1, lo l x), (some ⟨w1.heap.size, 0, none⟩, 1, 1, [(x, t)]), (A2, n2, c2, hi l x)] = putF l (x, t) := by simp [allF, putF]
  have hc := concat_any (w1.heap.size + 1) 0 3 _ _ (by simp) hr (by simp) (by rw [e1]; omega)
  rw [e1] at hc
  have HC := Lib.hid hc
  clear hc hr e1
  refine HC.out.mono ?_
  rintro e w2 ⟨v, rfl, hown, hb2⟩
  have HO := Lib.hid hown
  have hs2 := hbw.size
  clear HC hown hc0 hc1
  go_wp2
  go_ret
  exact ⟨_, rfl, owns_less HO.out hs2, hbw.trans (hb2.mono hs2)⟩
end Go.Proofs.Ytocodapegeajoaa
