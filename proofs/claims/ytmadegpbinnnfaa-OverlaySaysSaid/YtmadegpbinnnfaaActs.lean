/-
  WORDS AND WALKS: a slice that reads as a list of acts (three texts each); hammerpondlaw.LightActs; hammerpondlaw.overlays.
-/
import Derived.Test.YtmadegpbinnnfaaOver
namespace Go.Proofs.Ytmadegpbinnnfaa
open Go.RowKit

/-- An act: its kind and its two texts. -/
abbrev Ac := ByteArray × ByteArray × ByteArray
def RdA (w : World) (B : Nat) (A : Option Addr) (n c : Nat) (l : List Ac) : Prop :=
  l.length = n ∧ n ≤ c ∧ c ≤ maxLen ∧ (0 < n → ∃ b off, A = some ⟨b, off, none⟩ ∧ b < B ∧ ∀ i f, l[i]? = some f →
    w.cell? ⟨b, off + i * 3, none⟩ = some (.string f.1) ∧ w.cell? ⟨b, off + i * 3 + 1, none⟩ = some (.string f.2.1) ∧ w.cell? ⟨b, off + i * 3 + 2, none⟩ = some (.string f.2.2))
section
variable {w w' : World} {B B' n c : Nat} {A : Option Addr} {l : List Ac}
theorem RdA.keep (h : RdA w B A n c l) (hk : ∀ p : Addr, p.block < B → w'.cell? p = w.cell? p) : RdA w' B A n c l :=
  ⟨h.1, h.2.1, h.2.2.1, fun hn => by
    obtain ⟨b, off, e, hb, hc⟩ := h.2.2.2 hn
    refine ⟨b, off, e, hb, fun i f hi => ?_⟩
    obtain ⟨h1, h2, h3⟩ := hc i f hi
    exact ⟨(hk ⟨b, _, none⟩ hb).trans h1, (hk ⟨b, _, none⟩ hb).trans h2, (hk ⟨b, _, none⟩ hb).trans h3⟩⟩
theorem RdA.below (h : RdA w B A n c l) (hb : Below B w w') : RdA w' B A n c l := h.keep fun _ hp => hb.cell hp
theorem RdA.at_ (h : RdA w B A n c l) {i : Nat} {f : Ac} (hi : l[i]? = some f) : ∃ b off, A = some ⟨b, off, none⟩ ∧ b < B ∧
    w.cell? ⟨b, off + i * 3, none⟩ = some (.string f.1) ∧ w.cell? ⟨b, off + i * 3 + 1, none⟩ = some (.string f.2.1) ∧ w.cell? ⟨b, off + i * 3 + 2, none⟩ = some (.string f.2.2) := by
  have hl : i < l.length := (List.getElem?_eq_some_iff.1 hi).1
  obtain ⟨b, off, e, hb, hc⟩ := h.2.2.2 (by have := h.1; omega)
  exact ⟨b, off, e, hb, hc i f hi⟩
end

def LaPost (l : List Ac) (most : Nat) (w : World) (e : Ending) (w' : World) : Prop := ∃ b, e = .returned (.bool b) ∧ (b = true → l.length ≤ most) ∧ w = w'
def CountRel (n : Nat) (i : Value) : Prop := ∃ k : Nat, k ≤ n ∧ i = .int .i64 k
set_option maxHeartbeats 1000000 in
theorem lightActs_any (A : Option Addr) (n c : Nat) (l : List Ac) (most : Nat) (w : World) (h : RdA w w.heap.size A n c l) (hmost : most ≤ 1000) :
    Calls Try.prog 22 #[.slice A n c, .int .i64 most] w (LaPost l most w) := by
  have HR := Lib.hid h
  have HL := Lib.hid h.1
  have hm := h.2.2.1
  have hnc := h.2.1
  unfold maxLen at hm
  clear h
  by_cases hb : most < n
  · have hd : (most : Int) < (n : Int) := by omega
    go_enter Try.func22, Try.ntmps22
    go_wp2
    go_ret
    exact ⟨false, rfl, by simp, rfl⟩
  have hd : decide ((most : Int) < (n : Int)) = false := decide_eq_false (by omega)
  go_enter Try.func22, Try.ntmps22
  go_wp2
  go_loop [5] (fun i => CountRel n i) (fun i => n - (intOf i).toNat)
  case atStart => exact ⟨0, Nat.zero_le _, rfl⟩
  case round =>
    obtain ⟨k, hk, rfl⟩ := hrel
    by_cases hlt : k < n
    · obtain ⟨f, hf⟩ : ∃ f, l[k]? = some f := ⟨_, List.getElem?_eq_getElem (by rw [HL.out]; exact hlt)⟩
      obtain ⟨b', off, rfl, _, hc1, hc2, hc3⟩ := HR.out.at_ hf
      have hkz : (k : Int) < (n : Int) := by omega
      clear hf
      obtain ⟨fk, fs, ft⟩ := f
      by_cases hq : 60 < fs.size
      · have t1 : (60 : Int) < (fs.size : Int) := by omega
        go_wp2
        go_ret
        exact ⟨false, rfl, by simp, rfl⟩
      have t1 : decide ((60 : Int) < (fs.size : Int)) = false := decide_eq_false (by omega)
      by_cases hq2 : 60 < ft.size
      · have t2 : (60 : Int) < (ft.size : Int) := by omega
        go_wp2
        go_ret
        exact ⟨false, rfl, by simp, rfl⟩
      have t2 : decide ((60 : Int) < (ft.size : Int)) = false := decide_eq_false (by omega)
      go_wp2
      go_round
      case rel => exact ⟨k + 1, by omega, by go_num⟩
      case measure => simp [intOf]; omega
    · obtain rfl : k = n := by omega
      go_wp2
      go_ret
      exact ⟨true, rfl, fun _ => by rw [HL.out]; omega, rfl⟩

theorem RdS_one (w : World) (x : ByteArray) (e : TypeId) : RdS (w.alloc (.cells #[.string x] e)) (w.heap.size + 1) (some ⟨w.heap.size, 0, none⟩) 1 1 [x] := by
  refine ⟨rfl, Nat.le_refl _, by unfold maxLen; omega, fun _ => ⟨w.heap.size, 0, rfl, by omega, fun j u hu => ?_⟩⟩
  rw [World.cell?_alloc_at _ _ _ _ rfl]
  match j with
  | 0 => simpa using hu
  | j + 1 => simp at hu

theorem rises_sing (f : F) : Rises [f] := List.pairwise_singleton _ _

set_option maxHeartbeats 1000000 in
theorem overlays_any (w : World) : Calls Try.prog 20 #[] w fun e w' => e = .returned (.bool true) ∧ Below w.heap.size w w' := by
  go_enter Try.func20, Try.ntmps20
  go_wp2_with fail
  have b1 : Below w.heap.size w (w.alloc (.cells #[.string ⟨#[97]⟩, .string ⟨#[120]⟩] 24)) := (Below.refl _ _).alloc (Nat.le_refl _) _
  have r1 := RdF_one w ⟨#[97]⟩ ⟨#[120]⟩ 24
  have s1 : (w.alloc (.cells #[.string ⟨#[97]⟩, .string ⟨#[120]⟩] 24)).heap.size = w.heap.size + 1 := by simp
  generalize w.alloc (.cells #[.string ⟨#[97]⟩, .string ⟨#[120]⟩] 24) = wa at *
  have b2 : Below wa.heap.size wa (wa.alloc (.cells #[.string ⟨#[97]⟩] 9)) := (Below.refl _ _).alloc (Nat.le_refl _) _
  have r2 := RdS_one wa ⟨#[97]⟩ 9
  have s2 : (wa.alloc (.cells #[.string ⟨#[97]⟩] 9)).heap.size = wa.heap.size + 1 := by simp
  generalize wa.alloc (.cells #[.string ⟨#[97]⟩] 9) = wb at *
  have b3 : Below wb.heap.size wb (wb.alloc (.cells #[.string ⟨#[98]⟩] 9)) := (Below.refl _ _).alloc (Nat.le_refl _) _
  have r3 := RdS_one wb ⟨#[98]⟩ 9
  have s3 : (wb.alloc (.cells #[.string ⟨#[98]⟩] 9)).heap.size = wb.heap.size + 1 := by simp
  generalize wb.alloc (.cells #[.string ⟨#[98]⟩] 9) = wc at *
  rw [s1] at r2 s2 b2
  rw [s2] at r3 s3 b3
  have g1 : RdF wc wc.heap.size (some ⟨w.heap.size, 0, none⟩) 1 1 [(⟨#[97]⟩, ⟨#[120]⟩)] := ((r1.below b2).below (b3.mono (by omega))).more (by omega)
  have g2 : RdS wc wc.heap.size (some ⟨w.heap.size + 1, 0, none⟩) 1 1 [⟨#[97]⟩] := (r2.below b3).more (by omega)
  have g3 : RdS wc wc.heap.size (some ⟨w.heap.size + 1 + 1, 0, none⟩) 1 1 [⟨#[98]⟩] := r3.more (by omega)
  have hbw : Below w.heap.size w wc := (b1.trans (b2.mono (by omega))).trans (b3.mono (by omega))
  clear r1 r2 r3 s1 s2 s3 b1 b2 b3
  refine (new_any _ _ _ 1 1 1 1 1 1 [(⟨#[97]⟩, ⟨#[120]⟩)] [⟨#[97]⟩] [⟨#[98]⟩] wc g1 g2 g3 (by omega) (by omega) (by omega)).mono ?_
  rintro e w1 ⟨g, rfl, hg, hov, hb1⟩
  have HOV := Lib.hid hov
  clear hov g1 g2 g3
  go_wp2_with fail
  refine (read_any g _ _ _ _ ⟨#[97]⟩ w1 HOV.out List.Pairwise.nil (rises_sing _) (by simp) (by simp) (by simp)).mono ?_
  rintro e w2 ⟨rfl, hb2⟩
  have e1 : rText [(({ data := #[97] } : ByteArray), ({ data := #[120] } : ByteArray))] [{ data := #[97] }] [] { data := #[97] } = { data := #[120] } := by simp [rText, has, inT, textF]
  have e2 : rErr [(({ data := #[97] } : ByteArray), ({ data := #[120] } : ByteArray))] [{ data := #[97] }] [] { data := #[97] } = 0 := by simp [rErr, has, inT]
  rw [e1, e2]
  have HOV2 := Lib.hid (HOV.out.below hb2)
  clear e1 e2 HOV
  go_wp2_with fail
  refine (read_any g _ _ _ _ ⟨#[98]⟩ w2 HOV2.out List.Pairwise.nil (rises_sing _) (by simp) (by simp) (by simp)).mono ?_
  rintro e w3 ⟨rfl, hb3⟩
  have hne : ¬ ({ data := #[97] } : ByteArray) = { data := #[98] } := by simp
  have e1 : rText [(({ data := #[97] } : ByteArray), ({ data := #[120] } : ByteArray))] [{ data := #[97] }] [] { data := #[98] } = ByteArray.empty := by simp [rText, has, inT]
  have e2 : rErr [(({ data := #[97] } : ByteArray), ({ data := #[120] } : ByteArray))] [{ data := #[97] }] [] { data := #[98] } = 6 := by simp [rErr, has, inT]
  rw [e1, e2]
  have hb : Below w.heap.size w w3 := ((hbw.trans (hb1.mono hbw.size)).trans (hb2.mono (Nat.le_trans hbw.size hb1.size))).trans (hb3.mono (Nat.le_trans (Nat.le_trans hbw.size hb1.size) hb2.size))
  clear e1 e2 HOV2 hb1 hb2 hb3 hbw hne
  go_wp2_with fail
  refine (same_errV 0 (by omega) _).mono ?_
  rintro e w4 ⟨rfl, rfl⟩
  go_wp2_with fail
  refine (same_errV 6 (by omega) _).mono ?_
  rintro e w4 ⟨rfl, rfl⟩
  go_wp2
  go_ret
  exact ⟨rfl, hb⟩
end Go.Proofs.Ytmadegpbinnnfaa
