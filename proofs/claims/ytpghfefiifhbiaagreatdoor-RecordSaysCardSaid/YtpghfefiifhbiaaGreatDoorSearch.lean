/-
  WALKS: sort.Search over the closure of files.place, files.place, files.Get, files.around: what each call gives for a slice that reads as a sorted list of files of fewer than 2^40 elements.
-/
import Derived.Test.YtpghfefiifhbiaaGreatDoorRows
import Derived.Test.YtpghfefiifhbiaaGreatDoorMem
import Derived.WalkKit
import Derived.WalkSpells
import Derived.WalkLawsBesides
import Derived.Deep.QuietTactic
import Derived.BigQuiet
import Derived.Deep.LoopGhost
import Derived.Lib.Hide
namespace Go.Proofs.YtpghfefiifhbiaaGreatDoor
open Go.RowKit

/-- The closure: is the name at i not less? -/
theorem closure_any (b off n c i p q : Nat) (x y : ByteArray) (w : World) (hi : i < n)
    (h1 : w.cell? ⟨p, 0, none⟩ = some (.slice (some ⟨b, off, none⟩) n c)) (h2 : w.cell? ⟨q, 0, none⟩ = some (.string y)) (h3 : w.cell? ⟨b, off + i * 2, none⟩ = some (.string x)) :
    Calls Tryz.prog 53 #[.int .i64 i, .pointer (some ⟨p, 0, none⟩), .pointer (some ⟨q, 0, none⟩)] w fun e w' => e = .returned (.bool (!lt x y)) ∧ ∃ k, w' = w.drewN k := by
  have hiz : (i : Int) < (n : Int) := by omega
  go_enter Tryz.func53, Tryz.ntmps53
  go_wp2
  go_quiet (fail)
  go_wp2
  go_ret
  exact ⟨rfl, _, rfl⟩

set_option maxHeartbeats 1000000 in
set_option maxRecDepth 100000 in
/-- sort.Search over that closure: how many places answer no. -/
theorem search_any (n p q m : Nat) (g : Nat → Bool) (w : World) (hn : n < 1099511627776) (hm : m ≤ n)
    (hf : ∀ (k i : Nat), i < n → Calls Tryz.prog 53 #[.int .i64 i, .pointer (some ⟨p, 0, none⟩), .pointer (some ⟨q, 0, none⟩)] (w.drewN k) fun e w' => e = .returned (.bool (g i)) ∧ ∃ k', w' = (w.drewN k).drewN k')
    (hlo : ∀ i, i < m → g i = false) (hhi : ∀ i, m ≤ i → i < n → g i = true) :
    Calls Tryz.prog 52 #[.int .i64 n, .func (.func 53) #[] #[.pointer (some ⟨p, 0, none⟩), .pointer (some ⟨q, 0, none⟩)]] w fun e w' => e = .returned (.int .i64 m) ∧ ∃ k, w' = w.drewN k := by
  have HF := Lib.hid hf
  have L := Lib.hid hlo
  have U := Lib.hid hhi
  clear hf hlo hhi
  go_enter Tryz.func52, Tryz.ntmps52
  go_wp2
  go_loopg [5, 6] n (fun kx s5 s6 wr => ∃ (lo hi k : Nat), s5 = .int .i64 lo ∧ s6 = .int .i64 hi ∧ lo ≤ m ∧ m ≤ hi ∧ hi ≤ n ∧ hi - lo ≤ kx ∧ wr = w.drewN k)
  case atStart => exact ⟨0, n, 0, rfl, rfl, Nat.zero_le _, hm, Nat.le_refl _, by omega, rfl⟩
  case round =>
    obtain ⟨lo, hi, k, rfl, rfl, h1, h2, h3, h4, rfl⟩ := hrel
    by_cases hlt : lo < hi
    · have hc := HF.out k ((lo + hi) / 2) (by omega)
      rw [show (((lo + hi) / 2 : Nat) : Int) = ((lo : Int) + (hi : Int)) / 2 by omega] at hc
      by_cases hmid : (lo + hi) / 2 < m
      · rw [L.out _ hmid] at hc
        go_wp2_with fail
        refine hc.mono ?_
        rintro e w1 ⟨rfl, k', rfl⟩
        go_wp2
        go_roundg (hi - ((lo + hi) / 2 + 1))
        case measure => omega
        case rel => exact ⟨(lo + hi) / 2 + 1, hi, k + k', by rw [show ((lo : Int) + (hi : Int)) / 2 + 1 = (((lo + hi) / 2 + 1 : Nat) : Int) by omega], rfl, by omega, h2, h3, Nat.le_refl _, by first | rfl | rw [World.drewN_drewN]⟩
      · rw [U.out _ (by omega) (by omega)] at hc
        go_wp2_with fail
        refine hc.mono ?_
        rintro e w1 ⟨rfl, k', rfl⟩
        go_wp2
        go_roundg ((lo + hi) / 2 - lo)
        case measure => omega
        case rel => exact ⟨lo, (lo + hi) / 2, k + k', rfl, by rw [show ((lo : Int) + (hi : Int)) / 2 = (((lo + hi) / 2 : Nat) : Int) by omega], h1, by omega, by omega, Nat.le_refl _, by first | rfl | rw [World.drewN_drewN]⟩
    · obtain rfl : hi = m := by omega
      obtain rfl : lo = hi := by omega
      go_wp2
      go_ret
      exact ⟨rfl, k, rfl⟩

theorem box_below (w : World) (o o' : Obj) : Below w.heap.size w ((w.alloc o).alloc o') := ((Below.refl _ _).alloc (Nat.le_refl _) o).alloc (by simp) o'

theorem has_at {l : List F} (hs : Rises l) (x : ByteArray) {f : F} (hf : l[cut l x]? = some f) : has l x = (f.1.toList == x.toList) := by
  rw [Bool.eq_iff_iff, cut_has hs, beq_iff_eq]
  constructor
  · rintro ⟨g, hg, rfl⟩
    rw [hf] at hg; injection hg with hg; rw [hg]
  · intro e
    exact ⟨f, hf, toList_inj e⟩
theorem has_end {l : List F} (hs : Rises l) (x : ByteArray) (hf : l.length ≤ cut l x) : has l x = false := by
  cases h : has l x with
  | false => rfl
  | true =>
    obtain ⟨g, hg, _⟩ := (cut_has hs x).1 h
    rw [List.getElem?_eq_none hf] at hg; cases hg

set_option maxHeartbeats 1000000 in
set_option maxRecDepth 100000 in
/-- files.place: where the name belongs, and whether it is there. -/
theorem place_any (A : Option Addr) (n c : Nat) (l : List F) (x : ByteArray) (w : World) (h : RdF w w.heap.size A n c l) (hs : Rises l) (hn : n < 1099511627776) :
    Calls Tryz.prog 39 #[.slice A n c, .string x] w fun e w' => e = .returned (.tuple #[.int .i64 (cut l x : Nat), .bool (has l x)]) ∧ Below w.heap.size w w' := by
  have hmf : ∀ (fn : Fn) (first cap : Array Value) (w : World), (Instr.makeFunc fn first cap).run Tryz.prog w = .ok (.func fn first cap) w := fun _ _ _ _ => rfl
  have hc1 : ((w.alloc (.cells #[.slice A n c] 25)).alloc (.cells #[.string x] 9)).cell? ⟨w.heap.size, 0, none⟩ = some (.slice A n c) := by
    rw [World.cell?_alloc_past _ _ _ (by simp), World.cell?_alloc_at _ _ _ _ rfl]; rfl
  have hc2 : ((w.alloc (.cells #[.slice A n c] 25)).alloc (.cells #[.string x] 9)).cell? ⟨w.heap.size + 1, 0, none⟩ = some (.string x) := by
    rw [World.cell?_alloc_at _ _ _ _ (by simp)]; rfl
  have hb := box_below w (.cells #[.slice A n c] 25) (.cells #[.string x] 9)
  have HR := Lib.hid (h.below hb)
  have HL := Lib.hid h.1
  have hcl := cut_le (l := l) x
  rw [h.1] at hcl
  clear h
  generalize hm : cut l x = m at hcl ⊢
  generalize hr : has l x = r
  have HM := Lib.hid hm
  have HH := Lib.hid hr
  clear hm hr
  go_enter Tryz.func39, Tryz.ntmps39
  go_wp2_with fail
  generalize (w.alloc (.cells #[.slice A n c] 25)).alloc (.cells #[.string x] 9) = W at *
  refine (search_any n w.heap.size (w.heap.size + 1) m (fun i => match l[i]? with | some f => !lt f.1 x | none => true) W hn hcl ?_ ?_ ?_).mono ?_
  · intro k i hi
    have hil : i < l.length := by rw [HL.out]; exact hi
    obtain ⟨b, off, rfl, _, hcell, _⟩ := HR.out.at_ (List.getElem?_eq_getElem hil)
    rw [List.getElem?_eq_getElem hil]
    exact closure_any b off n c i _ _ _ x (W.drewN k) hi hc1 hc2 hcell
  · intro i hi
    have hil : i < l.length := by rw [HL.out]; omega
    rw [List.getElem?_eq_getElem hil]
    have := (cut_lt hs x (List.getElem?_eq_getElem hil)).2 (by rw [HM.out]; exact hi)
    simp [this]
  · intro i hi hin
    have hil : i < l.length := by rw [HL.out]; exact hin
    rw [List.getElem?_eq_getElem hil]
    have : lt l[i].1 x = false := by
      cases e : lt l[i].1 x with
      | false => rfl
      | true => have := (cut_lt hs x (List.getElem?_eq_getElem hil)).1 e; rw [HM.out] at this; omega
    simp [this]
  rintro e w1 ⟨rfl, k, rfl⟩
  by_cases hk : m < n
  · have hil : m < l.length := by rw [HL.out]; exact hk
    obtain ⟨f, hf⟩ : ∃ f, l[m]? = some f := ⟨_, List.getElem?_eq_getElem hil⟩
    have hhas := has_at hs x (f := f) (by rw [HM.out]; exact hf)
    obtain ⟨b, off, rfl, _, hcell, _⟩ := HR.out.at_ hf
    clear hf
    generalize f.1 = y at *
    rw [HH.out] at hhas
    have HX := Lib.hid hhas
    clear hhas hil hcl HR HL hmf HM HH
    have hkz : (m : Int) < (n : Int) := by omega
    go_wp2
    go_quiet (fail)
    go_wp2
    go_ret2
    exact ⟨by rw [HX.out]; rfl, ⟨hb.os, hb.tape, hb.output, hb.size, hb.block⟩⟩
  · have hhas := has_end hs x (by rw [HL.out, HM.out]; omega)
    rw [HH.out] at hhas
    have HX := Lib.hid hhas
    clear hhas HR HL hmf hs HM HH
    have hkz : decide ((m : Int) < (n : Int)) = false := decide_eq_false (by omega)
    go_wp2
    go_quiet (fail)
    go_wp2
    go_ret2
    exact ⟨by rw [HX.out]; rfl, ⟨hb.os, hb.tape, hb.output, hb.size, hb.block⟩⟩

/-- files.Get. -/
theorem get_any (A : Option Addr) (n c : Nat) (l : List F) (x : ByteArray) (w : World) (h : RdF w w.heap.size A n c l) (hs : Rises l) (hn : n < 1099511627776) :
    Calls Tryz.prog 22 #[.slice A n c, .string x] w fun e w' => e = .returned (.tuple #[.string (textF l x), .bool (has l x)]) ∧ Below w.heap.size w w' := by
  generalize hr : has l x = r
  generalize ht : textF l x = t
  have HL := Lib.hid h.1
  have HR := Lib.hid h
  clear h
  cases r with
  | false =>
    rw [textF_none hr] at ht
    subst ht
    have HH := Lib.hid hr
    clear hr
    go_enter Tryz.func22, Tryz.ntmps22
    go_wp2_with fail
    refine (place_any A n c l x w HR.out hs hn).mono ?_
    rintro e w1 ⟨rfl, hb⟩
    rw [HH.out]
    go_wp2
    go_ret2
    exact ⟨rfl, hb⟩
  | true =>
    obtain ⟨f, hf, rfl⟩ := (cut_has hs x).1 hr
    rw [textF_of hs (List.mem_of_getElem? hf)] at ht
    have hk : cut l f.1 < n := by rw [← HL.out]; exact (List.getElem?_eq_some_iff.1 hf).1
    have HH := Lib.hid hr
    clear hr
    go_enter Tryz.func22, Tryz.ntmps22
    go_wp2_with fail
    refine (place_any A n c l f.1 w HR.out hs hn).mono ?_
    rintro e w1 ⟨rfl, hb⟩
    rw [HH.out]
    obtain ⟨b, off, rfl, hlt, _, hcell⟩ := HR.out.at_ hf
    generalize cut l f.1 = m at *
    have hkz : (m : Int) < (n : Int) := by omega
    have hc1 : w1.cell? ⟨b, off + m * 2 + 1, none⟩ = some (.string f.2) := (hb.cell hlt).trans hcell
    rw [ht] at hc1
    clear hcell HR HL hf HH
    go_wp2
    go_ret2
    exact ⟨rfl, hb⟩

end Go.Proofs.YtpghfefiifhbiaaGreatDoor
