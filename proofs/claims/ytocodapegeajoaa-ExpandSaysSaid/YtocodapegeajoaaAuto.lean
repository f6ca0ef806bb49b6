/-
  WALK: expand.Auto.
-/
import Derived.Test.YtocodapegeajoaaReplace
import Derived.Test.YtocodapegeajoaaShelf
namespace Go.Proofs.Ytocodapegeajoaa
open Go.RowKit

def headT (l : List ByteArray) : ByteArray := l.headD ⟨#[]⟩
def joinB (l : List ByteArray) : Bs := Lib.join (l.map (·.data.toList)) [32]
/-- What expand.Auto gives. -/
def autoT (s : ByteArray) (lt ln : List ByteArray) (stem : ByteArray) : Bs := autoL (headT lt) (headT ln) (ba (joinB ln)) stem s.data.toList

set_option maxRecDepth 100000 in
theorem first_any (A : Option Addr) (n c : Nat) (l : List ByteArray) (w : World) (h : RdS w w.heap.size A n c l) :
    Calls Try.prog 57 #[.slice A n c] w fun e w' => e = .returned (.string (headT l)) ∧ w = w' := by
  by_cases h0 : n = 0
  · subst h0
    obtain rfl : l = [] := List.eq_nil_of_length_eq_zero h.1
    clear h
    go_enter Try.func57, Try.ntmps57
    go_wp2
    go_ret
    exact ⟨rfl, rfl⟩
  · obtain ⟨x, r, rfl⟩ : ∃ x r, l = x :: r := by
      rcases l with _ | ⟨x, r⟩
      · exact absurd h.1.symm h0
      · exact ⟨x, r, rfl⟩
    obtain ⟨b, off, rfl, hb, hc⟩ := h.at_ (i := 0) (f := x) rfl
    have hc0 : w.cell? ⟨b, off, none⟩ = some (.string x) := hc
    have hn : ((n : Int) == 0) = false := by rw [beq_eq_false_iff_ne]; omega
    have hp : (0 : Int) < (n : Int) := by omega
    have hp2 : 0 < n := by omega
    clear h hc h0
    go_enter Try.func57, Try.ntmps57
    go_wp2
    go_ret
    exact ⟨rfl, rfl⟩
theorem joinS_any (A : Option Addr) (n c : Nat) (l : List ByteArray) (w : World) (h : RdS w w.heap.size A n c l) (hn : n ≤ 1000000) (hl : (joinB l).length ≤ 1000000) :
    Calls Try.prog 58 #[.slice A n c, .string ⟨#[32]⟩] w fun e w' => e = .returned (.string (ba (joinB l))) ∧ Below w.heap.size w w' := by
  by_cases h0 : n = 0
  · subst h0
    obtain rfl : l = [] := List.eq_nil_of_length_eq_zero h.1
    refine (Try.strings_Join_none A c ⟨#[32]⟩ w).mono ?_
    rintro e w' ⟨rfl, rfl⟩
    exact ⟨rfl, Below.refl _ _⟩
  · obtain ⟨b, off, rfl, hb, hc⟩ := h.2.2.2 (by omega)
    have hl1 := h.1
    subst hl1
    exact Try.strings_Join b off c l ⟨#[32]⟩ w hc hb (by omega) h.2.1 (by show (joinB l).length ≤ _; omega)

set_option maxRecDepth 100000 in
set_option maxHeartbeats 1600000 in
theorem auto_any (s stem : ByteArray) (At An : Option Addr) (nt ct nn cn : Nat) (lt ln : List ByteArray) (w : World) (ht : RdS w w.heap.size At nt ct lt) (hn : RdS w w.heap.size An nn cn ln)
    (hnn : nn ≤ 1000000) (hs : s.size ≤ 1000000) (hj : (joinB ln).length ≤ 1000000) (hL : (autoT s lt ln stem).length ≤ 1000000000) :
    Calls Try.prog 39 #[.string s, .slice At nt ct, .slice An nn cn, .string stem] w fun e w' => e = .returned (.string (ba (autoT s lt ln stem))) ∧ Below w.heap.size w w' := by
  have HT := Lib.hid ht
  have HN := Lib.hid hn
  clear ht hn
  go_enter Try.func39, Try.ntmps39
  go_wp2_with fail
  refine (first_any At nt ct lt w HT.out).mono ?_
  rintro e w1 ⟨rfl, rfl⟩
  go_wp2_with fail
  refine (first_any An nn cn ln w HN.out).mono ?_
  rintro e w1 ⟨rfl, rfl⟩
  go_wp2_with fail
  refine (joinS_any An nn cn ln w HN.out hnn hj).mono ?_
  rintro e w1 ⟨rfl, hb1⟩
  have HB1 := Lib.hid hb1
  clear hb1
  go_wp2_with fail
  have hb2 : Below w1.heap.size w1 (w1.alloc (.cells #[.string ⟨#[36, 64]⟩, .string (headT lt), .string ⟨#[36, 60]⟩, .string (headT ln), .string ⟨#[36, 94]⟩, .string (ba (joinB ln)), .string ⟨#[36, 42]⟩, .string stem] 9)) := (Below.refl _ _).alloc (Nat.le_refl _) _
  have hr2 : RdS (w1.alloc (.cells #[.string ⟨#[36, 64]⟩, .string (headT lt), .string ⟨#[36, 60]⟩, .string (headT ln), .string ⟨#[36, 94]⟩, .string (ba (joinB ln)), .string ⟨#[36, 42]⟩, .string stem] 9)) (w1.heap.size + 1) (some ⟨w1.heap.size, 0, none⟩) 8 8 (keys4 (headT lt) (headT ln) (ba (joinB ln)) stem) := by
    refine ⟨rfl, Nat.le_refl _, by unfold maxLen; omega, fun _ => ⟨w1.heap.size, 0, rfl, by omega, fun j u hu => ?_⟩⟩
    have := (Blk.new w1 9 #[.string ⟨#[36, 64]⟩, .string (headT lt), .string ⟨#[36, 60]⟩, .string (headT ln), .string ⟨#[36, 94]⟩, .string (ba (joinB ln)), .string ⟨#[36, 42]⟩, .string stem]).cell j
    rw [Nat.zero_add, this]
    have e : (#[Value.string ⟨#[36, 64]⟩, .string (headT lt), .string ⟨#[36, 60]⟩, .string (headT ln), .string ⟨#[36, 94]⟩, .string (ba (joinB ln)), .string ⟨#[36, 42]⟩, .string stem] : Array Value)[j]? = ((keys4 (headT lt) (headT ln) (ba (joinB ln)) stem)[j]?).map Value.string := by
      rw [← List.getElem?_map, ← List.getElem?_toArray]; rfl
    rw [e, hu]
    rfl
  have hz2 : (w1.alloc (.cells #[.string ⟨#[36, 64]⟩, .string (headT lt), .string ⟨#[36, 60]⟩, .string (headT ln), .string ⟨#[36, 94]⟩, .string (ba (joinB ln)), .string ⟨#[36, 42]⟩, .string stem] 9)).heap.size = w1.heap.size + 1 := by simp
  rw [← hz2] at hr2
  have HB2 := Lib.hid (HB1.out.trans (hb2.mono HB1.out.size))
  have HR2 := Lib.hid hr2
  clear hb2 hr2 hz2
  generalize w1.alloc (.cells #[.string ⟨#[36, 64]⟩, .string (headT lt), .string ⟨#[36, 60]⟩, .string (headT ln), .string ⟨#[36, 94]⟩, .string (ba (joinB ln)), .string ⟨#[36, 42]⟩, .string stem] 9) = w2 at *
  refine (newrep_any _ 8 _ w2 HR2.out).mono ?_
  rintro e w3 ⟨R, c3, A3, rfl, hR, hblk, hr3, hA, hb3⟩
  have HB3 := Lib.hid (HB2.out.trans (hb3.mono HB2.out.size))
  have HC := Lib.hid (replacer_any R A3 c3 (headT lt) (headT ln) (ba (joinB ln)) stem s w3 hblk hr3 hA hs hL)
  have hRw : w.heap.size ≤ R := Nat.le_trans HB2.out.size hR
  clear hblk hr3 hA hb3
  go_wp2_with fail
  refine HC.out.mono ?_
  rintro e w4 ⟨rfl, hu4⟩
  have HB4 := Lib.hid (HB3.out.trans (hu4.below HB3.out.size (fun k e => by omega)))
  clear hu4
  go_wp2
  go_ret
  exact ⟨rfl, HB4.out⟩
end Go.Proofs.Ytocodapegeajoaa
