/-
  WALKS: hammerpondlaw.LightFiles (what it lets through is short and rises) and hammerpondref.SameFiles (are two lists the same?), for slices that read as files.
-/
import Derived.Test.YtpghfefiifhbiaaGreatDoorSearch
import Derived.Laws.StructEq
namespace Go.Proofs.YtpghfefiifhbiaaGreatDoor
open Go.RowKit

/-- The first k files are short, and rise. -/
def LitTo (l : List F) (k : Nat) : Prop :=
  (∀ j f, j < k → l[j]? = some f → f.1.size ≤ 20 ∧ f.2.size ≤ 60) ∧ (∀ j f g, j + 1 < k → l[j]? = some f → l[j + 1]? = some g → lt f.1 g.1 = true)
def Lit (l : List F) : Prop := l.length ≤ 24 ∧ Rises l ∧ ∀ f ∈ l, f.1.size ≤ 20 ∧ f.2.size ≤ 60

theorem rises_adj : ∀ l : List F, (∀ j f g, l[j]? = some f → l[j + 1]? = some g → lt f.1 g.1 = true) → Rises l
  | [], _ => List.Pairwise.nil
  | [_], _ => List.pairwise_singleton _ _
  | a :: b :: l, h => by
    have ih := rises_adj (b :: l) (fun j f g hf hg => h (j + 1) f g (by simpa using hf) (by simpa using hg))
    have hab := h 0 a b rfl rfl
    refine List.pairwise_cons.2 ⟨fun g hg => ?_, ih⟩
    rcases List.mem_cons.1 hg with rfl | hg
    · exact hab
    · exact lt_trans hab (ih.head g hg)
theorem LitTo.all {l : List F} (h : LitTo l l.length) (h24 : l.length ≤ 24) : Lit l := by
  refine ⟨h24, rises_adj l fun j f g hf hg => h.2 j f g (List.getElem?_eq_some_iff.1 hg).1 hf hg, fun f hf => ?_⟩
  obtain ⟨j, hj, e⟩ := List.mem_iff_getElem.1 hf
  exact h.1 j f hj (by rw [List.getElem?_eq_getElem hj, e])
theorem LitTo.zero (l : List F) : LitTo l 0 := ⟨fun _ _ h => by omega, fun _ _ _ h => by omega⟩
theorem LitTo.next {l : List F} {k : Nat} {f : F} (h : LitTo l k) (hf : l[k]? = some f) (h1 : f.1.size ≤ 20) (h2 : f.2.size ≤ 60) (h3 : ∀ g, 0 < k → l[k - 1]? = some g → lt g.1 f.1 = true) : LitTo l (k + 1) := by
  refine ⟨fun j g hj hg => ?_, fun j g g' hj hg hg' => ?_⟩
  · rcases Nat.lt_or_ge j k with hjk | hjk
    · exact h.1 j g hjk hg
    · obtain rfl : j = k := by omega
      rw [hf] at hg; injection hg with hg; subst hg
      exact ⟨h1, h2⟩
  · rcases Nat.lt_or_ge (j + 1) k with hjk | hjk
    · exact h.2 j g g' hjk hg hg'
    · obtain rfl : j + 1 = k := by omega
      rw [hf] at hg'; injection hg' with hg'; subst hg'
      exact h3 g (by omega) (by simpa using hg)

def LightPost (l : List F) (w : World) (e : Ending) (w' : World) : Prop := ∃ b, e = .returned (.bool b) ∧ (b = true → Lit l) ∧ ∃ k, w' = w.drewN k
def LightRel (l : List F) (w : World) (n : Nat) (i : Value) (wr : World) : Prop := ∃ k : Nat, k ≤ n ∧ i = .int .i64 k ∧ LitTo l k ∧ ∃ q, wr = w.drewN q

set_option maxHeartbeats 2000000 in
set_option maxRecDepth 100000 in
theorem light_any (A : Option Addr) (n c : Nat) (l : List F) (w : World) (h : RdF w w.heap.size A n c l) :
    Calls Tryz.prog 6 #[.slice A n c] w (LightPost l w) := by
  have hm := h.2.2.1
  have hnc := h.2.1
  unfold maxLen at hm
  have HR := Lib.hid h
  clear h
  by_cases h24 : 24 < n
  · have hd : (24 : Int) < (n : Int) := by omega
    go_enter Tryz.func6, Tryz.ntmps6
    go_wp2
    go_ret
    exact ⟨false, rfl, by simp, 0, rfl⟩
  · have hd : decide ((24 : Int) < (n : Int)) = false := decide_eq_false (by omega)
    go_enter Tryz.func6, Tryz.ntmps6
    go_wp2
    go_loopw [3] (fun i wr => LightRel l w n i wr) (fun i _ => n - (intOf i).toNat)
    case atStart => exact ⟨0, Nat.zero_le _, rfl, LitTo.zero l, 0, rfl⟩
    case round =>
      obtain ⟨k, hk, rfl, hlit, q, rfl⟩ := hrel
      have HT := Lib.hid hlit
      clear hlit
      by_cases hlt : k < n
      · have hil : k < l.length := by rw [HR.out.1]; exact hlt
        obtain ⟨f, hf⟩ : ∃ f, l[k]? = some f := ⟨_, List.getElem?_eq_getElem hil⟩
        obtain ⟨b, off, rfl, hcells⟩ := HR.out.cells (by omega)
        obtain ⟨_, hcells⟩ := hcells
        have hc1 := (hcells k f hf).1
        have hc2 := (hcells k f hf).2
        have HF := Lib.hid hf
        have HC := Lib.hid hcells
        clear hf hcells hil
        obtain ⟨x, t⟩ := f
        have hiz : (k : Int) < (n : Int) := by omega
        by_cases h1 : 20 < x.size
        · have t1 : (20 : Int) < (x.size : Int) := by omega
          go_wp2
          go_quiet (fail)
          go_wp2
          go_ret
          exact ⟨false, rfl, by simp, (by first | exact ⟨_, rfl⟩ | exact ⟨_, World.drewN_drewN _ _ _⟩)⟩
        · have t1 : decide ((20 : Int) < (x.size : Int)) = false := decide_eq_false (by omega)
          by_cases h2 : 60 < t.size
          · have t2 : (60 : Int) < (t.size : Int) := by omega
            go_wp2
            go_quiet (fail)
            go_wp2
            go_ret
            exact ⟨false, rfl, by simp, (by first | exact ⟨_, rfl⟩ | exact ⟨_, World.drewN_drewN _ _ _⟩)⟩
          · have t2 : decide ((60 : Int) < (t.size : Int)) = false := decide_eq_false (by omega)
            by_cases h3 : 0 < k
            · obtain ⟨g, hg⟩ : ∃ g, l[k - 1]? = some g := ⟨_, List.getElem?_eq_getElem (by rw [HR.out.1]; omega)⟩
              have hc3 := (HC.out (k - 1) g hg).1
              have HG := Lib.hid hg
              clear hg
              obtain ⟨y, u⟩ := g
              have t3 : (0 : Int) < (k : Int) := by omega
              obtain ⟨k, rfl⟩ : ∃ k', k = k' + 1 := ⟨k - 1, by omega⟩
              rw [show k + 1 - 1 = k by omega] at hc3
              have hkz : (k : Int) < (n : Int) := by omega
              cases h4 : (Op.bytesLess x.toList y.toList || x.toList == y.toList) with
              | true =>
                go_wp2
                go_quiet (fail)
                go_wp2
                go_ret
                exact ⟨false, rfl, by simp, (by first | exact ⟨_, rfl⟩ | exact ⟨_, World.drewN_drewN _ _ _⟩)⟩
              | false =>
                go_wp2
                go_quiet (fail)
                go_wp2
                go_roundw
                case rel =>
                  refine ⟨k + 1 + 1, by omega, by go_num, HT.out.next HF.out (by simp; omega) (by simp; omega) (fun g _ hg => ?_), (by first | exact ⟨_, rfl⟩ | exact ⟨_, World.drewN_drewN _ _ _⟩)⟩
                  have e1 := HG.out
                  rw [e1] at hg
                  injection hg with hg
                  subst hg
                  simp only [Bool.or_eq_false_iff] at h4
                  show lt y x = true
                  cases h5 : lt y x with
                  | true => rfl
                  | false =>
                    have e2 := lt_tri (a := x) (b := y) h4.1 h5
                    have e3 := h4.2
                    rw [e2] at e3
                    simp at e3
                case measure => simp [intOf]; omega
            · have t3 : decide ((0 : Int) < (k : Int)) = false := decide_eq_false (by omega)
              go_wp2
              go_quiet (fail)
              go_wp2
              go_roundw
              case rel => exact ⟨k + 1, by omega, by go_num, HT.out.next HF.out (by simp; omega) (by simp; omega) (fun g hg => absurd hg h3), (by first | exact ⟨_, rfl⟩ | exact ⟨_, World.drewN_drewN _ _ _⟩)⟩
              case measure => simp [intOf]; omega
      · obtain rfl : k = n := by omega
        go_wp2
        go_ret
        exact ⟨true, rfl, fun _ => LitTo.all (by rw [HR.out.1]; exact HT.out) (by rw [HR.out.1]; omega), (by first | exact ⟨_, rfl⟩ | exact ⟨_, World.drewN_drewN _ _ _⟩)⟩

def SameRel (w : World) (n : Nat) (i : Value) (wr : World) : Prop := ∃ k : Nat, k ≤ n ∧ i = .int .i64 k ∧ ∃ q, wr = w.drewN q

set_option maxHeartbeats 2000000 in
set_option maxRecDepth 100000 in
/-- hammerpondref.SameFiles of two slices that read as the same files. -/
theorem same_any (A A' : Option Addr) (n c c' : Nat) (l : List F) (w : World) (h : RdF w w.heap.size A n c l) (h' : RdF w w.heap.size A' n c' l) :
    Calls Tryz.prog 19 #[.slice A n c, .slice A' n c'] w fun e w' => e = .returned (.bool true) ∧ ∃ k, w' = w.drewN k := by
  have hm := h.2.2.1
  have hnc := h.2.1
  unfold maxLen at hm
  have HR := Lib.hid h
  have HR' := Lib.hid h'
  clear h h'
  go_enter Tryz.func19, Tryz.ntmps19
  go_wp2
  go_loopw [5] (fun i wr => SameRel w n i wr) (fun i _ => n - (intOf i).toNat)
  case atStart => exact ⟨0, Nat.zero_le _, rfl, 0, rfl⟩
  case round =>
    obtain ⟨k, hk, rfl, q, rfl⟩ := hrel
    by_cases hlt : k < n
    · obtain ⟨f, hf⟩ : ∃ f, l[k]? = some f := ⟨_, List.getElem?_eq_getElem (by rw [HR.out.1]; exact hlt)⟩
      obtain ⟨b, off, rfl, hbb, hc1, hc2⟩ := HR.out.at_ hf
      obtain ⟨b', off', rfl, hbb', hc1', hc2'⟩ := HR'.out.at_ hf
      clear hf
      obtain ⟨x, t⟩ := f
      have hiz : (k : Int) < (n : Int) := by omega
      go_wp2
      go_quiet (fail)
      go_wp2
      go_roundw
      case rel => exact ⟨k + 1, by omega, by go_num, by first | exact ⟨_, rfl⟩ | exact ⟨_, World.drewN_drewN _ _ _⟩⟩
      case measure => simp [intOf]; omega
    · obtain rfl : k = n := by omega
      go_wp2
      go_ret
      exact ⟨rfl, _, rfl⟩
end Go.Proofs.YtpghfefiifhbiaaGreatDoor
