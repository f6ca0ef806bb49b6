/-
  WALKS: plan.Units' function literal: is a unit all phony.
-/
import Derived.Test.YtlkpbpecgdphaaaGreatDoorCs
namespace Go.Proofs.YtlkpbpecgdphaaaGreatDoor
open Go.RowKit

abbrev apF (X : Nat) : Value := .func (.func 91) #[] #[ptr X]
def phV (out : List Gp) (i : Nat) : Bool := match out[i]? with
  | some g => g.ph
  | none => false
def ints (u : List Nat) : List Value := u.map fun (i : Nat) => Value.int .i64 (i : Int)
theorem ints_at {w wr : World} {A : Option Addr} {m : Nat} {u : List Nat} (h : RdX w 1 A m (ints u)) (hb : Below w.heap.size w wr) {k i : Nat} (hk : u[k]? = some i) : ∃ b off, A = some ⟨b, off, none⟩ ∧ wr.cell? ⟨b, off + k, none⟩ = some (.int .i64 (i : Int)) := by
  have hl : u.length = m := by have := h.1; simpa [ints] using this
  have hkm : k < m := by rw [← hl]; exact (List.getElem?_eq_some_iff.1 hk).1
  obtain ⟨b, off, e, hc⟩ := h.2.2 (by omega)
  have h1 := hc k (.int .i64 (i : Int)) (by simp [ints, hk])
  exact ⟨b, off, e, (hb.cell (p := ⟨b, off + k, none⟩) (cell_block_lt h1)).trans h1⟩
set_option maxRecDepth 100000 in
set_option maxHeartbeats 1000000 in
theorem allPhony1_any (A : Option Addr) (n c : Nat) (out : List Gp) (R : List Row4) (X i : Nat) (w : World) (h : GpRd w A n c out R) (_hn : n ≤ 1000000) (hi : i < n) (hx : w.cell? ⟨X, 0, none⟩ = some (.slice A n c)) :
    Calls Tryz.prog 91 #[.int .i64 i, ptr X] w fun e w' => e = .returned (.bool (!phV out i)) ∧ Below w.heap.size w w' := by
  obtain ⟨x, hx4⟩ : ∃ x, R[i]? = some x := ⟨_, List.getElem?_eq_getElem (by rw [h.rows.1]; exact hi)⟩
  obtain ⟨g, hg⟩ : ∃ g, out[i]? = some g := ⟨_, List.getElem?_eq_getElem (by rw [h.len]; exact hi)⟩
  obtain ⟨b', off, rfl, _, c1, c2, c3, c4⟩ := h.rows.at_ hx4
  obtain ⟨-, -, -, e4⟩ := h.each i x g hx4 hg
  rw [e4] at c4
  have hp : phV out i = g.ph := by simp [phV, hg]
  rw [hp]
  have hkz : (i : Int) < (n : Int) := by omega
  generalize g.ph = y at c4
  clear hx4 hg e4 hp h c1 c2 c3
  go_enter Tryz.func91, Tryz.ntmps91
  go_wp2
  go_ret
  exact ⟨rfl, Below.refl _ _⟩
set_option maxRecDepth 100000 in
set_option maxHeartbeats 2000000 in
theorem indexI_any (X : Nat) (A Au : Option Addr) (n c m cu : Nat) (out : List Gp) (R : List Row4) (u : List Nat) (w : World) (h : GpRd w A n c out R) (hn : n ≤ 1000000) (hu : RdX w 1 Au m (ints u)) (hm : m ≤ 1000000) (hin : ∀ i ∈ u, i < n) (hx : w.cell? ⟨X, 0, none⟩ = some (.slice A n c)) (hX : X < w.heap.size) :
    Calls Tryz.prog 126 #[.slice Au m cu, apF X] w fun e w' => e = .returned (.int .i64 (idxV (u.findIdx? fun i => !phV out i))) ∧ Below w.heap.size w w' := by
  obtain ⟨r, hr⟩ : ∃ r, r = idxV (u.findIdx? fun i => !phV out i) := ⟨_, rfl⟩
  rw [← hr]
  have HH := Lib.hid h
  have HX := Lib.hid hx
  have HV := Lib.hid hr
  have HU := Lib.hid hu
  have HI := Lib.hid hin
  have HL := Lib.hid (show u.length = m by have := hu.1; simpa [ints] using this)
  clear h hx hr hu hin
  go_enter Tryz.func126, Tryz.ntmps126
  go_wp2
  go_loopw [8] (fun i wr => IxRel w u (fun i => !phV out i) m i wr) (fun i _ => m - (intOf i).toNat)
  case atStart => exact ⟨0, Nat.zero_le _, rfl, by simp, Below.refl _ _⟩
  case round =>
    obtain ⟨k, hk, rfl, hno, hb⟩ := hrel
    have HN := Lib.hid hno
    have HB := Lib.hid hb
    have hsz := hb.size
    clear hno hb
    by_cases hlt : k < m
    · obtain ⟨i, hi⟩ : ∃ i, u[k]? = some i := ⟨_, List.getElem?_eq_getElem (by rw [HL.out]; exact hlt)⟩
      obtain ⟨b2, o2, rfl, ci⟩ := ints_at HU.out HB.out hi
      have hkz : (k : Int) < (m : Int) := by omega
      obtain ⟨q1, q2⟩ := findIdx_next HN.out hi
      have Q1 := Lib.hid q1
      have Q2 := Lib.hid q2
      have hc := allPhony1_any A n c out R X i wr (HH.out.belowS HB.out) hn (HI.out i (List.mem_of_getElem? hi)) ((HB.out.cell (p := ⟨X, 0, none⟩) hX).trans HX.out)
      clear q1 q2 hi
      cases hb : phV out i with
      | false =>
        rw [hb] at hc
        have HC := Lib.hid hc
        clear hc
        have hf := Q1.out (by rw [hb]; rfl)
        have hv := HV.out
        rw [hf] at hv
        have hv' : r = (k : Int) := hv
        subst hv'
        clear hb hf hv HV Q1 Q2 HN
        go_wp2_with (go_at_call 91; refine HC.out.mono ?_; rintro e w2 ⟨rfl, hb2⟩; have HB2 := Lib.hid (HB.out.trans (hb2.mono hsz)); clear hb2)
        go_ret
        exact ⟨rfl, HB2.out⟩
      | true =>
        have HF := Lib.hid (Q2.out (by rw [hb]; rfl))
        rw [hb] at hc
        have HC := Lib.hid hc
        clear hb Q1 Q2 hc
        go_wp2_with (go_at_call 91; refine HC.out.mono ?_; rintro e w2 ⟨rfl, hb2⟩; have HB2 := Lib.hid (HB.out.trans (hb2.mono hsz)); clear hb2)
        go_roundw
        case rel => exact ⟨k + 1, by omega, by go_num, HF.out, HB2.out⟩
        case measure => simp [intOf]; omega
    · obtain rfl : k = m := by omega
      have hf := findIdx_end HN.out (by rw [HL.out]; exact Nat.le_refl _)
      have hv := HV.out
      rw [hf] at hv
      have hv' : r = -1 := hv
      subst hv'
      clear hf hv HV HN
      go_wp2
      go_ret
      exact ⟨rfl, HB.out⟩
theorem any_findIdx (u : List Nat) (p : Nat → Bool) : decide ((0 : Int) ≤ idxV (u.findIdx? p)) = u.any p := by
  cases h : u.findIdx? p with
  | none =>
    have : u.any p = false := by
      rw [List.findIdx?_eq_none_iff] at h
      exact List.any_eq_false.2 fun x hx => by rw [h x hx]; simp
    rw [this]; rfl
  | some k =>
    have : u.any p = true := by
      obtain ⟨hk, hp, _⟩ := List.findIdx?_eq_some_iff_getElem.1 h
      exact List.any_eq_true.2 ⟨_, List.getElem_mem hk, hp⟩
    rw [this]; exact decide_eq_true (by show (0 : Int) ≤ (k : Int); omega)
set_option maxRecDepth 100000 in
set_option maxHeartbeats 1000000 in
theorem containsI_any (X : Nat) (A Au : Option Addr) (n c m cu : Nat) (out : List Gp) (R : List Row4) (u : List Nat) (w : World) (h : GpRd w A n c out R) (hn : n ≤ 1000000) (hu : RdX w 1 Au m (ints u)) (hm : m ≤ 1000000) (hin : ∀ i ∈ u, i < n) (hx : w.cell? ⟨X, 0, none⟩ = some (.slice A n c)) (hX : X < w.heap.size) :
    Calls Tryz.prog 90 #[.slice Au m cu, apF X] w fun e w' => e = .returned (.bool (someB (phV out) u)) ∧ Below w.heap.size w w' := by
  have HC := Lib.hid (indexI_any X A Au n c m cu out R u w h hn hu hm hin hx hX)
  have hs : someB (phV out) u = decide ((0 : Int) ≤ idxV (u.findIdx? fun i => !phV out i)) := (any_findIdx u _).symm
  rw [hs]
  generalize idxV (u.findIdx? fun i => !phV out i) = r at HC
  clear h hu hin hx hs
  go_enter Tryz.func90, Tryz.ntmps90
  go_wp2_with fail
  refine HC.out.mono ?_
  rintro e w1 ⟨rfl, hb1⟩
  have HB1 := Lib.hid hb1
  clear hb1
  go_wp2
  go_ret
  exact ⟨rfl, HB1.out⟩
set_option maxRecDepth 100000 in
set_option maxHeartbeats 1000000 in
theorem allPhony_any (A Au : Option Addr) (n c m cu : Nat) (out : List Gp) (R : List Row4) (u : List Nat) (w : World) (h : GpRd w A n c out R) (hn : n ≤ 1000000) (hu : RdX w 1 Au m (ints u)) (hm : m ≤ 1000000) (hin : ∀ i ∈ u, i < n) :
    Calls Tryz.prog 56 #[.slice A n c, .slice Au m cu] w fun e w' => e = .returned (.bool (!someB (phV out) u)) ∧ Below w.heap.size w w' := by
  have hba : Below w.heap.size w (w.alloc (.cells #[.slice A n c] 32)) := (Below.refl _ _).alloc (Nat.le_refl _) _
  have hu2 : RdX (w.alloc (.cells #[.slice A n c] 32)) 1 Au m (ints u) := ⟨hu.1, hu.2.1, fun hm0 => by
    obtain ⟨b, off, e, hc⟩ := hu.2.2 hm0
    exact ⟨b, off, e, fun j v hv => (hba.cell (p := ⟨b, off + j, none⟩) (cell_block_lt (hc j v hv))).trans (hc j v hv)⟩⟩
  have HC := Lib.hid (containsI_any w.heap.size A Au n c m cu out R u _ (h.belowS hba) hn hu2 hm hin (by rw [World.cell?_alloc_at _ _ _ _ rfl]; rfl) (by simp))
  have HB := Lib.hid hba
  generalize someB (phV out) u = bb at *
  clear hba h hu hu2 hin
  go_enter Tryz.func56, Tryz.ntmps56
  go_wp2_with fail
  refine HC.out.mono ?_
  rintro e w1 ⟨rfl, hb1⟩
  have HB1 := Lib.hid (HB.out.trans (hb1.mono HB.out.size))
  clear hb1
  go_wp2
  go_ret
  exact ⟨rfl, HB1.out⟩
end Go.Proofs.YtlkpbpecgdphaaaGreatDoor
namespace Go.Proofs.YtlkpbpecgdphaaaGreatDoor
open Go.RowKit

abbrev unF (X : Nat) : Value := .func (.func 55) #[] #[ptr X]
set_option maxRecDepth 100000 in
set_option maxHeartbeats 1000000 in
theorem units1_any (X : Nat) (A Au : Option Addr) (n c m cu : Nat) (out : List Gp) (R : List Row4) (u : List Nat) (w : World) (h : GpRd w A n c out R) (hn : n ≤ 1000000) (hu : RdX w 1 Au m (ints u)) (hm : m ≤ 1000000) (hin : ∀ i ∈ u, i < n) (hx : w.cell? ⟨X, 0, none⟩ = some (.slice A n c)) :
    Calls Tryz.prog 55 #[.slice Au m cu, ptr X] w fun e w' => e = .returned (.bool (!someB (phV out) u)) ∧ Below w.heap.size w w' := by
  have HC := Lib.hid (allPhony_any A Au n c m cu out R u w h hn hu hm hin)
  generalize someB (phV out) u = bb at *
  clear h hu hin
  go_enter Tryz.func55, Tryz.ntmps55
  go_wp2_with fail
  refine HC.out.mono ?_
  rintro e w1 ⟨rfl, hb1⟩
  have HB1 := Lib.hid hb1
  clear hb1
  go_wp2
  go_ret
  exact ⟨rfl, HB1.out⟩
end Go.Proofs.YtlkpbpecgdphaaaGreatDoor
