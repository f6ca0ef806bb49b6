/-
  WORDS AND WALKS for slices of strings: a slice that reads as a list of texts; hammerpondref.In, slices.Index, slices.Contains, slices.Clone, hammerpondlaw.LightTexts: what each gives, for lists of at most a million texts.
-/
import Derived.Test.YtpghfefiifhbiaaGreatDoorLight
import Derived.Test.YtpghfefiifhbiaaGreatDoorPut
namespace Go.Proofs.YtpghfefiifhbiaaGreatDoor
open Go.RowKit

def tcells (l : List ByteArray) : List Value := l.map Value.string
theorem tcells_one (l : List ByteArray) : ∀ u ∈ tcells l, u.oneCell' = true := by
  intro u hu
  obtain ⟨f, _, rfl⟩ := List.mem_map.1 hu
  rfl
/-- The slice (A, n, c) reads as the texts l, and lies below block B. -/
def RdS (w : World) (B : Nat) (A : Option Addr) (n c : Nat) (l : List ByteArray) : Prop :=
  l.length = n ∧ n ≤ c ∧ c ≤ maxLen ∧ (0 < n → ∃ b off, A = some ⟨b, off, none⟩ ∧ b < B ∧ ∀ j u, l[j]? = some u → w.cell? ⟨b, off + j, none⟩ = some (.string u))
section
variable {w w' : World} {B B' n c : Nat} {A : Option Addr} {l : List ByteArray}
theorem RdS.nil (w : World) (B : Nat) : RdS w B none 0 0 [] := ⟨rfl, Nat.le_refl _, Nat.zero_le _, fun h => absurd h (by omega)⟩
theorem RdS.keep (h : RdS w B A n c l) (hk : ∀ p : Addr, p.block < B → w'.cell? p = w.cell? p) : RdS w' B A n c l :=
  ⟨h.1, h.2.1, h.2.2.1, fun hn => by
    obtain ⟨b, off, e, hb, hc⟩ := h.2.2.2 hn
    exact ⟨b, off, e, hb, fun j u hu => (hk ⟨b, off + j, none⟩ hb).trans (hc j u hu)⟩⟩
theorem RdS.more (h : RdS w B A n c l) (hB : B ≤ B') : RdS w B' A n c l :=
  ⟨h.1, h.2.1, h.2.2.1, fun hn => by
    obtain ⟨b, off, e, hb, hc⟩ := h.2.2.2 hn
    exact ⟨b, off, e, by omega, hc⟩⟩
theorem RdS.below (h : RdS w B A n c l) (hb : Below B w w') : RdS w' B A n c l := h.keep fun _ hp => hb.cell hp
theorem RdS.belowS (h : RdS w w.heap.size A n c l) (hb : Below w.heap.size w w') : RdS w' w'.heap.size A n c l := (h.below hb).more hb.size
theorem RdS.drewN (h : RdS w B A n c l) (k : Nat) : RdS (w.drewN k) B A n c l := h
theorem RdS.at_ (h : RdS w B A n c l) {i : Nat} {f : ByteArray} (hi : l[i]? = some f) : ∃ b off, A = some ⟨b, off, none⟩ ∧ b < B ∧ w.cell? ⟨b, off + i, none⟩ = some (.string f) := by
  have hl : i < l.length := (List.getElem?_eq_some_iff.1 hi).1
  obtain ⟨b, off, e, hb, hc⟩ := h.2.2.2 (by have := h.1; omega)
  exact ⟨b, off, e, hb, hc _ _ hi⟩
theorem RdS.of_own {base : Nat} {e : TypeId} {v : Value} (h : w.ownsRow base e 1 v n (tcells l)) : ∃ A c, v = .slice A n c ∧ RdS w w.heap.size A n c l := by
  have hl : l.length = n := by have := h.1; rw [tcells, List.length_map] at this; omega
  rcases h.2 with ⟨rfl, rfl⟩ | ⟨g, cap, cur, rfl, hb, hh, hn, hm, hs, ht⟩
  · obtain rfl : l = [] := List.eq_nil_of_length_eq_zero hl
    exact ⟨none, 0, rfl, RdS.nil _ _⟩
  · refine ⟨_, cap, rfl, hl, hn, hm, fun _ => ⟨g, 0, rfl, (Array.getElem?_eq_some_iff.1 hh).1, fun j u hu => ?_⟩⟩
    have := h.cells (g := g) rfl j (.string u) (by rw [tcells, List.getElem?_map, hu]; rfl)
    rwa [Go.WideShapes.add_plain] at this
end

/-- Is a text among others? -/
def inT (l : List ByteArray) (s : ByteArray) : Bool := l.any fun f => f == s
theorem inT_at {l : List ByteArray} {s : ByteArray} {k : Nat} {f : ByteArray} (h : l[k]? = some f) (e : f = s) : inT l s = true := by
  simp only [inT, List.any_eq_true]
  exact ⟨f, List.mem_of_getElem? h, by simpa using e⟩
theorem inT_no {l : List ByteArray} {s : ByteArray} (h : ∀ j g, j < l.length → l[j]? = some g → g ≠ s) : inT l s = false := by
  rw [inT, List.any_eq_false]
  intro f hf
  obtain ⟨j, hj, e⟩ := List.mem_iff_getElem.1 hf
  have := h j f hj (by rw [List.getElem?_eq_getElem hj, e])
  simpa using this
def NoT (l : List ByteArray) (s : ByteArray) (k : Nat) : Prop := ∀ j g, j < k → l[j]? = some g → g ≠ s
theorem NoT.next {l : List ByteArray} {s : ByteArray} {k : Nat} {f : ByteArray} (h : NoT l s k) (hf : l[k]? = some f) (hq : (f.toList == s.toList) = false) : NoT l s (k + 1) := by
  intro j g hj hg
  rcases Nat.lt_or_ge j k with h1 | h1
  · exact h j g h1 hg
  · obtain rfl : j = k := by omega
    rw [hf] at hg
    injection hg with hg
    subst hg
    rintro rfl
    simp at hq
def InRel (l : List ByteArray) (s : ByteArray) (i : Value) : Prop := ∃ k : Nat, k ≤ l.length ∧ i = .int .i64 k ∧ NoT l s k


def IdxPost (l : List ByteArray) (s : ByteArray) (w : World) (e : Ending) (w' : World) : Prop := ∃ i : Int, e = .returned (.int .i64 i) ∧ inT l s = decide (0 ≤ i) ∧ w = w'


/-- Short texts, and few. -/
def ShortT (l : List ByteArray) (many long : Nat) : Prop := l.length ≤ many ∧ ∀ f ∈ l, f.size ≤ long
def LtPost (l : List ByteArray) (many long : Nat) (w : World) (e : Ending) (w' : World) : Prop := ∃ b, e = .returned (.bool b) ∧ (b = true → ShortT l many long) ∧ w = w'
def LtRel (l : List ByteArray) (long : Nat) (i : Value) : Prop := ∃ k : Nat, k ≤ l.length ∧ i = .int .i64 k ∧ ∀ j f, j < k → l[j]? = some f → f.size ≤ long
set_option maxHeartbeats 1000000 in
set_option maxRecDepth 100000 in
theorem lightTexts_any (A : Option Addr) (n c : Nat) (l : List ByteArray) (many long : Nat) (w : World) (h : RdS w w.heap.size A n c l) (hmany : many ≤ 1000) (hlong : long ≤ 100000) :
    Calls Tryz.prog 18 #[.slice A n c, .int .i64 many, .int .i64 long] w (LtPost l many long w) := by
  have HR := Lib.hid h
  have HL := Lib.hid h.1
  have hm := h.2.2.1
  have hnc := h.2.1
  unfold maxLen at hm
  clear h
  by_cases hb : many < n
  · have hd : (many : Int) < (n : Int) := by omega
    go_enter Tryz.func18, Tryz.ntmps18
    go_wp2
    go_ret
    exact ⟨false, rfl, by simp, rfl⟩
  have hd : decide ((many : Int) < (n : Int)) = false := decide_eq_false (by omega)
  go_enter Tryz.func18, Tryz.ntmps18
  go_wp2
  go_loop [7] (fun i => LtRel l long i) (fun i => n - (intOf i).toNat)
  case atStart => exact ⟨0, Nat.zero_le _, rfl, fun j g h => by omega⟩
  case round =>
    obtain ⟨k, hk, rfl, hno⟩ := hrel
    have hkn : k ≤ n := by rw [← HL.out]; exact hk
    clear hk
    have HN := Lib.hid hno
    clear hno
    by_cases hlt : k < n
    · obtain ⟨f, hf⟩ : ∃ f, l[k]? = some f := ⟨_, List.getElem?_eq_getElem (by rw [HL.out]; exact hlt)⟩
      obtain ⟨b', off, rfl, _, hc1⟩ := HR.out.at_ hf
      have hkz : (k : Int) < (n : Int) := by omega
      have HF := Lib.hid hf
      clear hf
      by_cases hq : long < f.size
      · have t1 : (long : Int) < (f.size : Int) := by omega
        go_wp2
        go_ret
        exact ⟨false, rfl, by simp, rfl⟩
      · have t1 : decide ((long : Int) < (f.size : Int)) = false := decide_eq_false (by omega)
        go_wp2
        go_round
        case rel =>
          refine ⟨k + 1, by rw [HL.out]; omega, by go_num, fun j g hj hg => ?_⟩
          rcases Nat.lt_or_ge j k with h1 | h1
          · exact HN.out j g h1 hg
          · obtain rfl : j = k := by omega
            have e1 := HF.out
            rw [e1] at hg
            injection hg with hg
            subst hg
            omega
        case measure => simp [intOf]; omega
    · obtain rfl : k = n := by omega
      go_wp2
      go_ret
      refine ⟨true, rfl, fun _ => ⟨by rw [HL.out]; omega, fun f hf => ?_⟩, rfl⟩
      obtain ⟨j, hj, e⟩ := List.mem_iff_getElem.1 hf
      exact HN.out j f (by rw [← HL.out]; exact hj) (by rw [List.getElem?_eq_getElem hj, e])
end Go.Proofs.YtpghfefiifhbiaaGreatDoor
