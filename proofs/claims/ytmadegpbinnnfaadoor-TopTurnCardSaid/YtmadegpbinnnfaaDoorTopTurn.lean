/-
  THE WALK OF hammerpondtop.TopTurn: for every text the call returns true, and nothing that was there has turned.
-/
import Derived.Test.YtmadegpbinnnfaaDoorTop
import Derived.Test.YtmadegpbinnnfaaDoorLong
namespace Go.Proofs.YtmadegpbinnnfaaDoor
open Go.RowKit

theorem RdS_two (w : World) (x y : ByteArray) (e : TypeId) : RdS (w.alloc (.cells #[.string x, .string y] e)) (w.heap.size + 1) (some ⟨w.heap.size, 0, none⟩) 2 2 [x, y] := by
  refine ⟨rfl, Nat.le_refl _, by unfold maxLen; omega, fun _ => ⟨w.heap.size, 0, rfl, by omega, fun j u hu => ?_⟩⟩
  rw [World.cell?_alloc_at _ _ _ _ rfl]
  match j with
  | 0 => simpa using hu
  | 1 => simpa using hu
  | j + 2 => simp at hu

theorem turn_short (ph : Bool) (A An At Ac : Option Addr) (t : ByteArray) (w : World) (ht : ¬ 20 < t.size) (g1 : RdF w w.heap.size A 1 1 [(⟨#[97]⟩, t)]) (g2 : RdS w w.heap.size An 1 1 [⟨#[97]⟩]) (g3 : RdS w w.heap.size At 2 2 [⟨#[98]⟩, ⟨#[99]⟩])
    (g4 : RdS w w.heap.size Ac 2 2 [⟨#[116, 117, 114, 110, 32, 97, 32, 98]⟩, ⟨#[116, 117, 114, 110, 32, 98, 32, 99]⟩]) (hm : MaxOk w) :
    Calls Tryd.prog 13 #[.slice A 1 1, .agg #[.slice At 2 2, .slice An 1 1, .slice Ac 2 2, .bool ph]] w (AllPost (0, [(⟨#[98]⟩, revT t), (⟨#[99]⟩, t)]) w) := by
  refine all_small ph A An At Ac 1 1 1 1 2 2 2 2 _ _ _ _ _ w g1 g2 g3 g4 ?_ (by omega) ?_ hm (all_turn t ht).symm
  · exact small_one _ _ ⟨#[]⟩ ⟨#[]⟩ _ _ (by simp) (by simp) (by omega)
  · intro x hx
    have : x = ⟨#[116, 117, 114, 110, 32, 97, 32, 98]⟩ ∨ x = ⟨#[116, 117, 114, 110, 32, 98, 32, 99]⟩ := by simpa using hx
    rcases this with e | e <;> (rw [e]; simp [ByteArray.size])
theorem copy_short (ph : Bool) (A An At Ac : Option Addr) (t : ByteArray) (w : World) (ht : ¬ 20 < t.size) (g1 : RdF w w.heap.size A 1 1 [(⟨#[97]⟩, t)]) (g2 : RdS w w.heap.size An 1 1 [⟨#[97]⟩]) (g3 : RdS w w.heap.size At 2 2 [⟨#[98]⟩, ⟨#[99]⟩])
    (g4 : RdS w w.heap.size Ac 2 2 [⟨#[99, 111, 112, 121, 32, 97, 32, 98]⟩, ⟨#[106, 111, 105, 110, 32, 99, 32, 97]⟩]) (hm : MaxOk w) :
    Calls Tryd.prog 13 #[.slice A 1 1, .agg #[.slice At 2 2, .slice An 1 1, .slice Ac 2 2, .bool ph]] w (AllPost (0, [(⟨#[98]⟩, t), (⟨#[99]⟩, t)]) w) := by
  refine all_small ph A An At Ac 1 1 1 1 2 2 2 2 _ _ _ _ _ w g1 g2 g3 g4 ?_ (by omega) ?_ hm (all_copy t ht).symm
  · exact small_one _ _ ⟨#[]⟩ ⟨#[]⟩ _ _ (by simp) (by simp) (by omega)
  · intro x hx
    have : x = ⟨#[99, 111, 112, 121, 32, 97, 32, 98]⟩ ∨ x = ⟨#[106, 111, 105, 110, 32, 99, 32, 97]⟩ := by simpa using hx
    rcases this with e | e <;> (rw [e]; simp [ByteArray.size])
theorem run_long (t : ByteArray) (h : 20 < t.size) : runR [(⟨#[97]⟩, t)] [⟨#[97]⟩] [⟨#[98]⟩, ⟨#[99]⟩] [] (words ⟨#[116, 117, 114, 110, 32, 97, 32, 98]⟩) = (2, []) := by
  rw [words_turn_ab, runR_turn]
  simp [passR, writeR, wErr, wOwn, rErr, rText, has, inT, textF, revT_size', h]
theorem turn_long (ph : Bool) (A An At Ac : Option Addr) (t : ByteArray) (w : World) (ht : 20 < t.size) (hz : t.size ≤ 9223372036854775807) (g1 : RdF w w.heap.size A 1 1 [(⟨#[97]⟩, t)]) (g2 : RdS w w.heap.size An 1 1 [⟨#[97]⟩]) (g3 : RdS w w.heap.size At 2 2 [⟨#[98]⟩, ⟨#[99]⟩])
    (g4 : RdS w w.heap.size Ac 2 2 [⟨#[116, 117, 114, 110, 32, 97, 32, 98]⟩, ⟨#[116, 117, 114, 110, 32, 98, 32, 99]⟩]) (hm : MaxOk w) :
    Calls Tryd.prog 13 #[.slice A 1 1, .agg #[.slice At 2 2, .slice An 1 1, .slice Ac 2 2, .bool ph]] w (AllPost (2, []) w) := by
  refine all_any (fun k own => k = 0 ∧ own = []) ph A An At Ac 1 1 1 1 2 2 2 2 _ _ _ _ _ w g1 g2 g3 g4 (by omega) (by omega) (by omega) (by omega) hm ⟨rfl, rfl⟩ ?_ ?_ ?_ (all_long t ht).symm
  · rintro k own cmd g W hx ⟨rfl, rfl⟩ hov hmo
    have ec : cmd = ⟨#[116, 117, 114, 110, 32, 97, 32, 98]⟩ := by simpa using hx.symm
    subst ec
    refine run_turn_long g _ _ _ [] _ _ 3 _ ⟨#[97]⟩ ⟨#[98]⟩ W hov ⟨List.pairwise_singleton _ _, List.Pairwise.nil, by simp, by simp, by simp, by simp⟩ ?_ hmo (by simp [ByteArray.size]) words_turn_ab rfl (by omega) rfl rfl rfl rfl (by rw [words_turn_ab, runR_turn])
    have : rText [(({ data := #[97] } : ByteArray), t)] [{ data := #[97] }] [] { data := #[97] } = t := by simp [rText, has, inT, textF]
    rw [this]; exact hz
  · rintro k own cmd hx ⟨rfl, rfl⟩ h0
    have ec : cmd = ⟨#[116, 117, 114, 110, 32, 97, 32, 98]⟩ := by simpa using hx.symm
    subst ec
    rw [run_long t ht] at h0
    exact absurd h0 (by decide)
  · rintro k own ⟨rfl, rfl⟩
    simp

/-- What the first five blocks of the call are. -/
structure TT (t : ByteArray) (w W : World) : Prop where
  f : RdF W W.heap.size (some ⟨w.heap.size, 0, none⟩) 1 1 [(⟨#[97]⟩, t)]
  t : RdS W W.heap.size (some ⟨w.heap.size + 1, 0, none⟩) 2 2 [⟨#[98]⟩, ⟨#[99]⟩]
  n : RdS W W.heap.size (some ⟨w.heap.size + 1 + 1, 0, none⟩) 1 1 [⟨#[97]⟩]
  c : RdS W W.heap.size (some ⟨w.heap.size + 1 + 1 + 1, 0, none⟩) 2 2 [⟨#[116, 117, 114, 110, 32, 97, 32, 98]⟩, ⟨#[116, 117, 114, 110, 32, 98, 32, 99]⟩]
  g : Four W (w.heap.size + 1 + 1 + 1 + 1) 34 (.slice (some ⟨w.heap.size + 1, 0, none⟩) 2 2) (.slice (some ⟨w.heap.size + 1 + 1, 0, none⟩) 1 1) (.slice (some ⟨w.heap.size + 1 + 1 + 1, 0, none⟩) 2 2) (.bool false)
  b : Below w.heap.size w W
  s : W.heap.size = w.heap.size + 1 + 1 + 1 + 1 + 1
theorem tt_facts (t : ByteArray) (w : World) : TT t w (((((w.alloc (.cells #[.string ⟨#[97]⟩, .string t] 52)).alloc (.cells #[.string ⟨#[98]⟩, .string ⟨#[99]⟩] 9)).alloc (.cells #[.string ⟨#[97]⟩] 9)).alloc (.cells #[.string ⟨#[116, 117, 114, 110, 32, 97, 32, 98]⟩, .string ⟨#[116, 117, 114, 110, 32, 98, 32, 99]⟩] 9)).alloc (.cells #[.slice (some ⟨w.heap.size + 1, 0, none⟩) 2 2, .slice (some ⟨w.heap.size + 1 + 1, 0, none⟩) 1 1, .slice (some ⟨w.heap.size + 1 + 1 + 1, 0, none⟩) 2 2, .bool false] 34)) := by
  have b1 : Below w.heap.size w (w.alloc (.cells #[.string ⟨#[97]⟩, .string t] 52)) := (Below.refl _ _).alloc (Nat.le_refl _) _
  have r1 := RdF_one w ⟨#[97]⟩ t 52
  have s1 : (w.alloc (.cells #[.string ⟨#[97]⟩, .string t] 52)).heap.size = w.heap.size + 1 := by simp
  generalize w.alloc (.cells #[.string ⟨#[97]⟩, .string t] 52) = wa at *
  have b2 : Below wa.heap.size wa (wa.alloc (.cells #[.string ⟨#[98]⟩, .string ⟨#[99]⟩] 9)) := (Below.refl _ _).alloc (Nat.le_refl _) _
  have r2 := RdS_two wa ⟨#[98]⟩ ⟨#[99]⟩ 9
  have s2 : (wa.alloc (.cells #[.string ⟨#[98]⟩, .string ⟨#[99]⟩] 9)).heap.size = wa.heap.size + 1 := by simp
  generalize wa.alloc (.cells #[.string ⟨#[98]⟩, .string ⟨#[99]⟩] 9) = wb at *
  have b3 : Below wb.heap.size wb (wb.alloc (.cells #[.string ⟨#[97]⟩] 9)) := (Below.refl _ _).alloc (Nat.le_refl _) _
  have r3 := RdS_one' wb ⟨#[97]⟩ 9
  have s3 : (wb.alloc (.cells #[.string ⟨#[97]⟩] 9)).heap.size = wb.heap.size + 1 := by simp
  generalize wb.alloc (.cells #[.string ⟨#[97]⟩] 9) = wc at *
  have b4 : Below wc.heap.size wc (wc.alloc (.cells #[.string ⟨#[116, 117, 114, 110, 32, 97, 32, 98]⟩, .string ⟨#[116, 117, 114, 110, 32, 98, 32, 99]⟩] 9)) := (Below.refl _ _).alloc (Nat.le_refl _) _
  have r4 := RdS_two wc ⟨#[116, 117, 114, 110, 32, 97, 32, 98]⟩ ⟨#[116, 117, 114, 110, 32, 98, 32, 99]⟩ 9
  have s4 : (wc.alloc (.cells #[.string ⟨#[116, 117, 114, 110, 32, 97, 32, 98]⟩, .string ⟨#[116, 117, 114, 110, 32, 98, 32, 99]⟩] 9)).heap.size = wc.heap.size + 1 := by simp
  generalize wc.alloc (.cells #[.string ⟨#[116, 117, 114, 110, 32, 97, 32, 98]⟩, .string ⟨#[116, 117, 114, 110, 32, 98, 32, 99]⟩] 9) = wd at *
  have b5 : Below wd.heap.size wd (wd.alloc (.cells #[.slice (some ⟨w.heap.size + 1, 0, none⟩) 2 2, .slice (some ⟨w.heap.size + 1 + 1, 0, none⟩) 1 1, .slice (some ⟨w.heap.size + 1 + 1 + 1, 0, none⟩) 2 2, .bool false] 34)) := (Below.refl _ _).alloc (Nat.le_refl _) _
  have r5 := heap_alloc_new wd (.cells #[.slice (some ⟨w.heap.size + 1, 0, none⟩) 2 2, .slice (some ⟨w.heap.size + 1 + 1, 0, none⟩) 1 1, .slice (some ⟨w.heap.size + 1 + 1 + 1, 0, none⟩) 2 2, .bool false] 34)
  have s5 : (wd.alloc (.cells #[.slice (some ⟨w.heap.size + 1, 0, none⟩) 2 2, .slice (some ⟨w.heap.size + 1 + 1, 0, none⟩) 1 1, .slice (some ⟨w.heap.size + 1 + 1 + 1, 0, none⟩) 2 2, .bool false] 34)).heap.size = wd.heap.size + 1 := by simp
  generalize wd.alloc (.cells #[.slice (some ⟨w.heap.size + 1, 0, none⟩) 2 2, .slice (some ⟨w.heap.size + 1 + 1, 0, none⟩) 1 1, .slice (some ⟨w.heap.size + 1 + 1 + 1, 0, none⟩) 2 2, .bool false] 34) = we at *
  rw [s1] at r2 s2 b2
  rw [s2] at r3 s3 b3
  rw [s3] at r4 s4 b4
  rw [s4] at r5 s5 b5
  exact ⟨((((r1.below b2).below (b3.mono (by omega))).below (b4.mono (by omega))).below (b5.mono (by omega))).more (by omega),
    (((r2.below b3).below (b4.mono (by omega))).below (b5.mono (by omega))).more (by omega), ((r3.below b4).below (b5.mono (by omega))).more (by omega), (r4.below b5).more (by omega), r5,
    (((b1.trans (b2.mono (by omega))).trans (b3.mono (by omega))).trans (b4.mono (by omega))).trans (b5.mono (by omega)), s5⟩
theorem noStr_group {w : World} {g : Nat} {ty : TypeId} {A0 A1 A2 : Option Addr} {n0 n1 n2 c0 c1 c2 : Nat} {b : Bool} (h : Four w g ty (.slice A0 n0 c0) (.slice A1 n1 c1) (.slice A2 n2 c2) (.bool b)) : NoStr w g := by
  intro o s e
  rw [h.cell o] at e
  match o with
  | 0 => simp at e
  | 1 => simp at e
  | 2 => simp at e
  | 3 => simp at e
  | o + 4 => simp at e
theorem max_ne_group {w : World} {g : Nat} {ty : TypeId} {A0 A1 A2 : Option Addr} {n0 n1 n2 c0 c1 c2 : Nat} {b : Bool} (h : Four w g ty (.slice A0 n0 c0) (.slice A1 n1 c1) (.slice A2 n2 c2) (.bool b)) (m : Int) (hm : w.cell? ⟨1, 0, none⟩ = some (.int .i64 m)) : 1 ≠ g := by
  intro e
  have := h.cell 0
  rw [e, this] at hm
  exact absurd hm (by simp)

set_option maxHeartbeats 4000000 in
set_option maxRecDepth 100000 in
theorem topTurn_any (t : ByteArray) (w : World) (hz : t.size ≤ 9223372036854775807) (hm : MaxOk w) :
    Calls Tryd.prog 6 #[.string t] w fun e w' => e = .returned (.bool true) ∧ Below w.heap.size w w' := by
  have HM := Lib.hid hm
  have HTT := Lib.hid (tt_facts t w)
  clear hm
  by_cases h20 : 20 < t.size
  · have t1 : (20 : Int) < (t.size : Int) := by omega
    go_enter Tryd.func6, Tryd.ntmps6
    go_wp2_with fail
    generalize ((((w.alloc (.cells #[.string ⟨#[97]⟩, .string t] 52)).alloc (.cells #[.string ⟨#[98]⟩, .string ⟨#[99]⟩] 9)).alloc (.cells #[.string ⟨#[97]⟩] 9)).alloc (.cells #[.string ⟨#[116, 117, 114, 110, 32, 97, 32, 98]⟩, .string ⟨#[116, 117, 114, 110, 32, 98, 32, 99]⟩] 9)).alloc (.cells #[.slice (some ⟨w.heap.size + 1, 0, none⟩) 2 2, .slice (some ⟨w.heap.size + 1 + 1, 0, none⟩) 1 1, .slice (some ⟨w.heap.size + 1 + 1 + 1, 0, none⟩) 2 2, .bool false] 34) = W at *
    refine (turn_long false _ _ _ _ t W h20 hz HTT.out.f HTT.out.n HTT.out.t HTT.out.c (HM.out.below HTT.out.b)).mono ?_
    rintro e w1 ⟨A1, n1, c1, rfl, hr1, hb1⟩
    clear hr1
    go_wp2_with fail
    refine (number_any 2 _).mono ?_
    rintro e w1' ⟨rfl, rfl⟩
    go_wp2
    go_ret
    exact ⟨rfl, HTT.out.b.trans (hb1.mono HTT.out.b.size)⟩
  · have t1 : decide ((20 : Int) < (t.size : Int)) = false := decide_eq_false (by omega)
    go_enter Tryd.func6, Tryd.ntmps6
    go_wp2_with fail
    generalize ((((w.alloc (.cells #[.string ⟨#[97]⟩, .string t] 52)).alloc (.cells #[.string ⟨#[98]⟩, .string ⟨#[99]⟩] 9)).alloc (.cells #[.string ⟨#[97]⟩] 9)).alloc (.cells #[.string ⟨#[116, 117, 114, 110, 32, 97, 32, 98]⟩, .string ⟨#[116, 117, 114, 110, 32, 98, 32, 99]⟩] 9)).alloc (.cells #[.slice (some ⟨w.heap.size + 1, 0, none⟩) 2 2, .slice (some ⟨w.heap.size + 1 + 1, 0, none⟩) 1 1, .slice (some ⟨w.heap.size + 1 + 1 + 1, 0, none⟩) 2 2, .bool false] 34) = W at *
    refine (turn_short false _ _ _ _ t W h20 HTT.out.f HTT.out.n HTT.out.t HTT.out.c (HM.out.below HTT.out.b)).mono ?_
    rintro e w1 ⟨A1, n1, c1, rfl, hr1, hb1⟩
    simp only [errV_zero]
    obtain rfl : n1 = 2 := hr1.1.symm
    obtain ⟨b1, o1, rfl, hbb1, hc1, hc2⟩ := hr1.at_ (show [((⟨#[98]⟩ : ByteArray), revT t), ((⟨#[99]⟩ : ByteArray), t)][1]? = some (⟨#[99]⟩, t) from rfl)
    have hc2' : w1.cell? ⟨b1, o1 + 3, none⟩ = some (.string t) := by simpa using hc2
    have f1 := HTT.out.g.below hb1 HTT.out.g.lt
    have F1 := Lib.hid f1
    have G0 := Lib.hid (HTT.out.f.belowS hb1)
    have G1 := Lib.hid (HTT.out.t.belowS hb1)
    have G2 := Lib.hid (HTT.out.n.belowS hb1)
    have HB1 := Lib.hid (HTT.out.b.trans (hb1.mono HTT.out.b.size))
    have HM1 := Lib.hid ((HM.out.below HTT.out.b).below hb1)
    clear hr1 hc1 hc2 f1 hb1 HTT HM hbb1
    have b2 : Below w1.heap.size w1 (w1.alloc (.cells #[.string ⟨#[99, 111, 112, 121, 32, 97, 32, 98]⟩, .string ⟨#[106, 111, 105, 110, 32, 99, 32, 97]⟩] 9)) := (Below.refl _ _).alloc (Nat.le_refl _) _
    have r2 := RdS_two w1 ⟨#[99, 111, 112, 121, 32, 97, 32, 98]⟩ ⟨#[106, 111, 105, 110, 32, 99, 32, 97]⟩ 9
    have s2 : (w1.alloc (.cells #[.string ⟨#[99, 111, 112, 121, 32, 97, 32, 98]⟩, .string ⟨#[106, 111, 105, 110, 32, 99, 32, 97]⟩] 9)).heap.size = w1.heap.size + 1 := by simp
    rw [← s2] at r2
    have F2 := Lib.hid (F1.out.below b2 F1.out.lt)
    have f2c : (w1.alloc (.cells #[.string ⟨#[99, 111, 112, 121, 32, 97, 32, 98]⟩, .string ⟨#[106, 111, 105, 110, 32, 99, 32, 97]⟩] 9)).cell? ⟨w.heap.size + 1 + 1 + 1 + 1, 2, none⟩ = some (.slice (some ⟨w.heap.size + 1 + 1 + 1, 0, none⟩) 2 2) := F2.out.cell 2
    have f2f : (w1.alloc (.cells #[.string ⟨#[99, 111, 112, 121, 32, 97, 32, 98]⟩, .string ⟨#[106, 111, 105, 110, 32, 99, 32, 97]⟩] 9)).frozen? ⟨w.heap.size + 1 + 1 + 1 + 1, 2, none⟩ = false := F2.out.frozen 2
    have HR2 := Lib.hid r2
    have HB2 := Lib.hid b2
    clear r2 b2 s2
    have e4 := F2.out.set 2 (.slice (some ⟨w1.heap.size, 0, none⟩) 2 2)
    have F3 := Lib.hid (show Four ((w1.alloc (.cells #[.string ⟨#[99, 111, 112, 121, 32, 97, 32, 98]⟩, .string ⟨#[106, 111, 105, 110, 32, 99, 32, 97]⟩] 9)).setCell ⟨w.heap.size + 1 + 1 + 1 + 1, 2, none⟩ (.slice (some ⟨w1.heap.size, 0, none⟩) 2 2)) (w.heap.size + 1 + 1 + 1 + 1) 34 (.slice (some ⟨w.heap.size + 1, 0, none⟩) 2 2) (.slice (some ⟨w.heap.size + 1 + 1, 0, none⟩) 1 1) (.slice (some ⟨w1.heap.size, 0, none⟩) 2 2) (.bool false) from e4)
    clear e4
    have hg := grown_setCell (w1.alloc (.cells #[.string ⟨#[99, 111, 112, 121, 32, 97, 32, 98]⟩, .string ⟨#[106, 111, 105, 110, 32, 99, 32, 97]⟩] 9)) (w.heap.size + 1 + 1 + 1 + 1) 2 (.slice (some ⟨w1.heap.size, 0, none⟩) 2 2)
    have hns := noStr_group F2.out
    have K0 := Lib.hid (((G0.out.belowS HB2.out).grown hg (Nat.le_refl _) hns).more hg.size)
    have K1 := Lib.hid (((G1.out.belowS HB2.out).grown hg (Nat.le_refl _) hns).more hg.size)
    have K2 := Lib.hid (((G2.out.belowS HB2.out).grown hg (Nat.le_refl _) hns).more hg.size)
    have K3 := Lib.hid ((HR2.out.grown hg (Nat.le_refl _) hns).more hg.size)
    have KM := Lib.hid ((HM1.out.below HB2.out).grown hg (max_ne_group F2.out))
    have KB := Lib.hid ((HB1.out.trans (HB2.out.mono HB1.out.size)).grown hg (Nat.le_trans HB1.out.size HB2.out.size) (fun k hk => by injection hk with hk; omega))
    have d0 := F3.out.cell 0
    have d1 := F3.out.cell 1
    have d2 := F3.out.cell 2
    have d3 := F3.out.cell 3
    simp only [List.getElem?_toArray, List.getElem?_cons_zero, List.getElem?_cons_succ] at d0 d1 d2 d3
    clear hg hns HB2 G0 G1 G2 HM1 HB1 F1 F2
    go_wp2_with fail
    generalize (w1.alloc (.cells #[.string ⟨#[99, 111, 112, 121, 32, 97, 32, 98]⟩, .string ⟨#[106, 111, 105, 110, 32, 99, 32, 97]⟩] 9)).setCell ⟨w.heap.size + 1 + 1 + 1 + 1, 2, none⟩ (.slice (some ⟨w1.heap.size, 0, none⟩) 2 2) = w3 at *
    refine (copy_short false _ _ _ _ t w3 h20 K0.out K2.out K1.out K3.out KM.out).mono ?_
    rintro e w4 ⟨A4, n4, c4, rfl, hr4, hb4⟩
    simp only [errV_zero]
    obtain rfl : n4 = 2 := hr4.1.symm
    obtain ⟨b4, o4, rfl, _, hc4, hc5⟩ := hr4.at_ (show [((⟨#[98]⟩ : ByteArray), t), ((⟨#[99]⟩ : ByteArray), t)][0]? = some (⟨#[98]⟩, t) from rfl)
    obtain ⟨b5, o5, e5, _, hc6, hc7⟩ := hr4.at_ (show [((⟨#[98]⟩ : ByteArray), t), ((⟨#[99]⟩ : ByteArray), t)][1]? = some (⟨#[99]⟩, t) from rfl)
    injection e5 with e5
    injection e5 with e5 e6
    subst e5; subst e6
    have j1 : w4.cell? ⟨b4, o4 + 1, none⟩ = some (.string t) := by simpa using hc5
    have j2 : w4.cell? ⟨b4, o4 + 3, none⟩ = some (.string t) := by simpa using hc7
    have KB4 := Lib.hid (KB.out.trans (hb4.mono KB.out.size))
    clear hr4 hc4 hc5 hc6 hc7 hb4 K0 K1 K2 K3 KM KB d0 d1 d2 d3 F3 hc2' f2c f2f HR2
    go_wp2
    go_ret
    exact ⟨rfl, KB4.out⟩
end Go.Proofs.YtmadegpbinnnfaaDoor
