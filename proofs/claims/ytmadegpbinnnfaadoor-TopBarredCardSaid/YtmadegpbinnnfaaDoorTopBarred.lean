/-
  THE WALK OF hammerpondtop.TopBarred: for every slice that reads as files and every group of texts the call returns true, and nothing that was there has turned.
-/
import Derived.Test.YtmadegpbinnnfaaDoorTop
import Derived.Deep.RegionHeld3
namespace Go.Proofs.YtmadegpbinnnfaaDoor
open Go.RowKit

theorem small_lit' {base : List F} {needs targets : List ByteArray} (h : Lit base) (hn : needs.length ≤ 5) (ht : targets.length ≤ 4) : Small base needs targets [] :=
  ⟨h.2.1, List.Pairwise.nil, by have := h.1; omega, by simp, by omega, by omega, fun f hf => (h.2.2 f hf).2, by simp⟩

theorem barred_call (ph : Bool) (A At Ac : Option Addr) (w : World) (g1 : RdF w w.heap.size A 1 1 [(⟨#[97]⟩, ⟨#[120]⟩)]) (g3 : RdS w w.heap.size At 1 1 [⟨#[98]⟩]) (g4 : RdS w w.heap.size Ac 1 1 [⟨#[99, 111, 112, 121, 32, 97, 32, 98]⟩]) (hm : MaxOk w) :
    Calls Tryd.prog 13 #[.slice A 1 1, .agg #[.slice At 1 1, .slice none 0 0, .slice Ac 1 1, .bool ph]] w (AllPost (6, []) w) := by
  refine all_small ph A none At Ac 1 1 0 0 1 1 1 1 _ [] _ _ _ w g1 (RdS.nil _ _) g3 g4 ?_ (by omega) ?_ hm all_barred.symm
  · exact small_one _ _ ⟨#[]⟩ ⟨#[]⟩ _ _ (by simp) (by simp) (by simp [ByteArray.size])
  · intro x hx
    have : x = ⟨#[99, 111, 112, 121, 32, 97, 32, 98]⟩ := by simpa using hx
    rw [this]; simp [ByteArray.size]
def TbRel (w : World) (l : List F) (i : Value) (wr : World) : Prop := ∃ k : Nat, k ≤ l.length ∧ i = .int .i64 k ∧ ∃ q, wr = w.drewN q

set_option maxHeartbeats 4000000 in
set_option maxRecDepth 100000 in
theorem topBarred_any (ph : Bool) (A An At Ac : Option Addr) (n c nn cn nt ct nc cc : Nat) (base : List F) (needs targets cmds : List ByteArray) (w : World)
    (h : RdF w w.heap.size A n c base) (h1 : RdS w w.heap.size An nn cn needs) (h2 : RdS w w.heap.size At nt ct targets) (h3 : RdS w w.heap.size Ac nc cc cmds) (hm : MaxOk w) :
    Calls Tryd.prog 5 #[.slice A n c, .agg #[.slice At nt ct, .slice An nn cn, .slice Ac nc cc, .bool ph]] w fun e w' => e = .returned (.bool true) ∧ Below w.heap.size w w' := by
  have hb0 : Below w.heap.size w (w.alloc (.cells #[.slice At nt ct, .slice An nn cn, .slice Ac nc cc, .bool ph] 34)) := (Below.refl _ _).alloc (Nat.le_refl _) _
  have z : ∀ (k : Nat) v, #[.slice At nt ct, .slice An nn cn, .slice Ac nc cc, .bool ph][k]? = some v → (w.alloc (.cells #[.slice At nt ct, .slice An nn cn, .slice Ac nc cc, .bool ph] 34)).cell? ⟨w.heap.size, k, none⟩ = some v := by
    intro k v hv
    rw [World.cell?_alloc_at _ _ _ _ rfl]; exact hv
  have Z0 := Lib.hid (z 0 _ rfl)
  have Z1 := Lib.hid (z 1 _ rfl)
  have Z2 := Lib.hid (z 2 _ rfl)
  have Z3 := Lib.hid (z 3 _ rfl)
  have H := Lib.hid (h.belowS hb0)
  have H1 := Lib.hid (h1.belowS hb0)
  have H2 := Lib.hid (h2.belowS hb0)
  have H3 := Lib.hid (h3.belowS hb0)
  have HM := Lib.hid (hm.below hb0)
  have L0 := Lib.hid h.1
  have L1 := Lib.hid h1.1
  have L2 := Lib.hid h2.1
  have L3 := Lib.hid h3.1
  have hlw0 : (w.alloc (.cells #[.slice At nt ct, .slice An nn cn, .slice Ac nc cc, .bool ph] 34)).heap.size = w.heap.size + 1 := by simp
  clear h h1 h2 h3 hm z
  go_enter Tryd.func5, Tryd.ntmps5
  go_wp2_with fail
  generalize w.alloc (.cells #[.slice At nt ct, .slice An nn cn, .slice Ac nc cc, .bool ph] 34) = w0 at *
  have b1 : Below w0.heap.size w0 (w0.alloc (.cells #[.string ⟨#[97]⟩, .string ⟨#[120]⟩] 52)) := (Below.refl _ _).alloc (Nat.le_refl _) _
  have r1 := RdF_one w0 ⟨#[97]⟩ ⟨#[120]⟩ 52
  have s1 : (w0.alloc (.cells #[.string ⟨#[97]⟩, .string ⟨#[120]⟩] 52)).heap.size = w0.heap.size + 1 := by simp
  generalize w0.alloc (.cells #[.string ⟨#[97]⟩, .string ⟨#[120]⟩] 52) = wa at *
  have b2 : Below wa.heap.size wa (wa.alloc (.cells #[.string ⟨#[98]⟩] 9)) := (Below.refl _ _).alloc (Nat.le_refl _) _
  have r2 := RdS_one' wa ⟨#[98]⟩ 9
  have s2 : (wa.alloc (.cells #[.string ⟨#[98]⟩] 9)).heap.size = wa.heap.size + 1 := by simp
  generalize wa.alloc (.cells #[.string ⟨#[98]⟩] 9) = wb at *
  have b3 : Below wb.heap.size wb (wb.alloc (.cells #[.string ⟨#[99, 111, 112, 121, 32, 97, 32, 98]⟩] 9)) := (Below.refl _ _).alloc (Nat.le_refl _) _
  have r3 := RdS_one' wb ⟨#[99, 111, 112, 121, 32, 97, 32, 98]⟩ 9
  have s3 : (wb.alloc (.cells #[.string ⟨#[99, 111, 112, 121, 32, 97, 32, 98]⟩] 9)).heap.size = wb.heap.size + 1 := by simp
  generalize wb.alloc (.cells #[.string ⟨#[99, 111, 112, 121, 32, 97, 32, 98]⟩] 9) = wc at *
  rw [s1] at r2 s2 b2
  rw [s2] at r3 s3 b3
  have g1 : RdF wc wc.heap.size (some ⟨w0.heap.size, 0, none⟩) 1 1 [(⟨#[97]⟩, ⟨#[120]⟩)] := ((r1.below b2).below (b3.mono (by omega))).more (by omega)
  have g2 : RdS wc wc.heap.size (some ⟨w0.heap.size + 1, 0, none⟩) 1 1 [⟨#[98]⟩] := (r2.below b3).more (by omega)
  have g3 : RdS wc wc.heap.size (some ⟨w0.heap.size + 1 + 1, 0, none⟩) 1 1 [⟨#[99, 111, 112, 121, 32, 97, 32, 98]⟩] := r3.more (by omega)
  have hbc : Below w0.heap.size w0 wc := (b1.trans (b2.mono (by omega))).trans (b3.mono (by omega))
  clear r1 r2 r3 s1 s2 s3 b1 b2 b3
  rw [hlw0] at g1 g2 g3
  refine (barred_call false _ _ _ wc g1 g2 g3 (HM.out.below hbc)).mono ?_
  rintro e w1 ⟨A1, n1, c1, rfl, hr1, hb1'⟩
  obtain rfl : n1 = 0 := hr1.1.symm
  have hb1 : Below w0.heap.size w0 w1 := hbc.trans (hb1'.mono hbc.size)
  have hlw : w.heap.size < w0.heap.size := by omega
  clear hr1 g1 g2 g3 hb1' hbc hlw0
  go_wp2_with fail
  refine (number_any 6 _).mono ?_
  rintro e w1' ⟨rfl, rfl⟩
  go_wp2_with fail
  refine (light_any A n c base w1 (H.out.belowS hb1)).mono ?_
  rintro e w3 ⟨b, rfl, hlit, q, rfl⟩
  have hb3 : Below w0.heap.size w0 (w1.drewN q) := ⟨hb1.os, hb1.tape, hb1.output, hb1.size, hb1.block⟩
  clear hb1
  generalize w1.drewN q = w3 at *
  have hbw3 : Below w.heap.size w w3 := hb0.trans (hb3.mono hb0.size)
  cases b with
  | false =>
    clear hlit
    go_wp2
    go_ret
    exact ⟨rfl, hbw3⟩
  | true =>
    have hlt := hlit rfl
    clear hlit
    have HLT := Lib.hid hlt
    clear hlt
    have y0 : w3.cell? ⟨w.heap.size, 0, none⟩ = some (.slice At nt ct) := (hb3.cell (p := ⟨w.heap.size, 0, none⟩) hlw).trans Z0.out
    have y1 : w3.cell? ⟨w.heap.size, 1, none⟩ = some (.slice An nn cn) := (hb3.cell (p := ⟨w.heap.size, 1, none⟩) hlw).trans Z1.out
    have y2 : w3.cell? ⟨w.heap.size, 2, none⟩ = some (.slice Ac nc cc) := (hb3.cell (p := ⟨w.heap.size, 2, none⟩) hlw).trans Z2.out
    have y3 : w3.cell? ⟨w.heap.size, 3, none⟩ = some (.bool ph) := (hb3.cell (p := ⟨w.heap.size, 3, none⟩) hlw).trans Z3.out
    go_wp2_with fail
    refine (lightGroup_any ph An At Ac nn cn nt ct nc cc needs targets cmds w3 (H1.out.belowS hb3) (H2.out.belowS hb3) (H3.out.belowS hb3)).mono ?_
    rintro e w4 ⟨b, rfl, hlg, hb4'⟩
    have hb4 : Below w0.heap.size w0 w4 := hb3.trans (hb4'.mono hb3.size)
    have hbw4 : Below w.heap.size w w4 := hb0.trans (hb4.mono hb0.size)
    clear hb4' hbw3 hb3 y0 y1 y2 y3
    cases b with
    | false =>
      clear hlg
      go_wp2
      go_ret
      exact ⟨rfl, hbw4⟩
    | true =>
      obtain ⟨ht4, hn5, hc5⟩ := hlg rfl
      clear hlg
      have hsm : Small base needs targets [] := small_lit' HLT.out hn5.1 ht4.1
      have hcs : ∀ x ∈ cmds, x.size ≤ 1000 := fun x hx => by have := hc5.2 x hx; omega
      have hnc : nc ≤ 5 := by rw [← L3.out]; exact hc5.1
      have hnn : nn ≤ 5 := by rw [← L1.out]; exact hn5.1
      have hnt : nt ≤ 4 := by rw [← L2.out]; exact ht4.1
      have hn : n ≤ 24 := by rw [← L0.out]; exact HLT.out.1
      have HCS := Lib.hid hcs
      have HSM := Lib.hid hsm
      clear hcs ht4 hn5 hc5 hsm HLT
      have y0 : w4.cell? ⟨w.heap.size, 0, none⟩ = some (.slice At nt ct) := (hb4.cell (p := ⟨w.heap.size, 0, none⟩) hlw).trans Z0.out
      have y1 : w4.cell? ⟨w.heap.size, 1, none⟩ = some (.slice An nn cn) := (hb4.cell (p := ⟨w.heap.size, 1, none⟩) hlw).trans Z1.out
      have y2 : w4.cell? ⟨w.heap.size, 2, none⟩ = some (.slice Ac nc cc) := (hb4.cell (p := ⟨w.heap.size, 2, none⟩) hlw).trans Z2.out
      have y3 : w4.cell? ⟨w.heap.size, 3, none⟩ = some (.bool ph) := (hb4.cell (p := ⟨w.heap.size, 3, none⟩) hlw).trans Z3.out
      generalize hra : allR base needs targets cmds [] = r
      have hown : OwnT targets r.2 := by rw [← hra]; exact allR_T cmds [] ⟨List.Pairwise.nil, by simp⟩
      have hra2 : allR (onlyF base needs) needs targets cmds [] = r := by rw [← hra]; exact allR_only HSM.out.rb cmds []
      have HRA := Lib.hid hra.symm
      have HRA2 := Lib.hid hra2.symm
      have HOWN := Lib.hid hown
      clear hra hra2 hown
      go_wp2_with fail
      refine (all_small ph A An At Ac n c nn cn nt ct nc cc base needs targets cmds r w4 (H.out.belowS hb4) (H1.out.belowS hb4) (H2.out.belowS hb4) (H3.out.belowS hb4) HSM.out (by omega) HCS.out (HM.out.below hb4) HRA.out).mono ?_
      rintro e w5 ⟨A5, n5, c5, rfl, hr5, hb5'⟩
      have hb5 : Below w0.heap.size w0 w5 := hb4.trans (hb5'.mono hb4.size)
      obtain rfl : n5 = r.2.length := hr5.1.symm
      have HR5 := Lib.hid hr5
      clear hr5 hb5' hb4 y0 y1 y2 y3
      have x0 : w5.cell? ⟨w.heap.size, 0, none⟩ = some (.slice At nt ct) := (hb5.cell (p := ⟨w.heap.size, 0, none⟩) hlw).trans Z0.out
      have x1 : w5.cell? ⟨w.heap.size, 1, none⟩ = some (.slice An nn cn) := (hb5.cell (p := ⟨w.heap.size, 1, none⟩) hlw).trans Z1.out
      have x2 : w5.cell? ⟨w.heap.size, 2, none⟩ = some (.slice Ac nc cc) := (hb5.cell (p := ⟨w.heap.size, 2, none⟩) hlw).trans Z2.out
      have x3 : w5.cell? ⟨w.heap.size, 3, none⟩ = some (.bool ph) := (hb5.cell (p := ⟨w.heap.size, 3, none⟩) hlw).trans Z3.out
      go_wp2
      have hb5d : Below w0.heap.size w0 w5.drew := hb5.drew
      have X := Lib.hid (show w5.drew.cell? ⟨w.heap.size, 0, none⟩ = some (.slice At nt ct) ∧ w5.drew.cell? ⟨w.heap.size, 1, none⟩ = some (.slice An nn cn) ∧ w5.drew.cell? ⟨w.heap.size, 2, none⟩ = some (.slice Ac nc cc) ∧ w5.drew.cell? ⟨w.heap.size, 3, none⟩ = some (.bool ph) from ⟨x0, x1, x2, x3⟩)
      have HR5d := Lib.hid (show RdF w5.drew w5.drew.heap.size A5 r.2.length c5 r.2 from HR5.out)
      have HB5 := Lib.hid hb5d
      clear hb5d hb5
      go_region_held3 (fun w' => w'.cell? ⟨w.heap.size, 0, none⟩ = some (.slice At nt ct) ∧ w'.cell? ⟨w.heap.size, 1, none⟩ = some (.slice An nn cn) ∧ w'.cell? ⟨w.heap.size, 2, none⟩ = some (.slice Ac nc cc) ∧ w'.cell? ⟨w.heap.size, 3, none⟩ = some (.bool ph))
        (first | exact u7 | exact u6 | exact X.out | exact ⟨x0, x1, x2, x3⟩)
        (first
          | (go_at_call 21; refine (only_any A An n c nn cn base needs _ (H.out.belowS HB5.out) (H1.out.belowS HB5.out) (by omega) (by omega)).mono ?_; rintro e w6 ⟨v6, rfl, hown6, hb6'⟩; obtain ⟨A6, c6, rfl, hr6⟩ := RdF.of_own hown6; have HB6 := Lib.hid (HB5.out.trans (hb6'.mono HB5.out.size)); have u6 : w6.cell? ⟨w.heap.size, 0, none⟩ = some (.slice At nt ct) ∧ w6.cell? ⟨w.heap.size, 1, none⟩ = some (.slice An nn cn) ∧ w6.cell? ⟨w.heap.size, 2, none⟩ = some (.slice Ac nc cc) ∧ w6.cell? ⟨w.heap.size, 3, none⟩ = some (.bool ph) := ⟨(HB6.out.cell (p := ⟨w.heap.size, 0, none⟩) hlw).trans Z0.out, (HB6.out.cell (p := ⟨w.heap.size, 1, none⟩) hlw).trans Z1.out, (HB6.out.cell (p := ⟨w.heap.size, 2, none⟩) hlw).trans Z2.out, (HB6.out.cell (p := ⟨w.heap.size, 3, none⟩) hlw).trans Z3.out⟩; have HR6 := Lib.hid hr6; have HR56 := Lib.hid (HR5d.out.belowS hb6'); clear hr6 hown6 hb6')
          | (go_at_call 13; refine (all_small ph A6 An At Ac _ c6 nn cn nt ct nc cc (onlyF base needs) needs targets cmds r _ HR6.out (H1.out.belowS HB6.out) (H2.out.belowS HB6.out) (H3.out.belowS HB6.out) (small_only HSM.out) (by omega) HCS.out (HM.out.below HB6.out) HRA2.out).mono ?_; rintro e w7 ⟨A7, n7, c7, rfl, hr7, hb7'⟩; obtain rfl : n7 = r.2.length := hr7.1.symm; have HB7 := Lib.hid (HB6.out.trans (hb7'.mono HB6.out.size)); have u7 : w7.cell? ⟨w.heap.size, 0, none⟩ = some (.slice At nt ct) ∧ w7.cell? ⟨w.heap.size, 1, none⟩ = some (.slice An nn cn) ∧ w7.cell? ⟨w.heap.size, 2, none⟩ = some (.slice Ac nc cc) ∧ w7.cell? ⟨w.heap.size, 3, none⟩ = some (.bool ph) := ⟨(HB7.out.cell (p := ⟨w.heap.size, 0, none⟩) hlw).trans Z0.out, (HB7.out.cell (p := ⟨w.heap.size, 1, none⟩) hlw).trans Z1.out, (HB7.out.cell (p := ⟨w.heap.size, 2, none⟩) hlw).trans Z2.out, (HB7.out.cell (p := ⟨w.heap.size, 3, none⟩) hlw).trans Z3.out⟩; have HR7 := Lib.hid hr7; have HR57 := Lib.hid (HR56.out.belowS hb7'); clear hr7 hb7'))
      go_wp2_with fail
      refine (number_any r.1 _).mono ?_
      rintro e w8 ⟨rfl, rfl⟩
      go_wp2_with fail
      refine (number_any r.1 _).mono ?_
      rintro e w8 ⟨rfl, rfl⟩
      go_wp2_with fail
      refine (same_any A5 A7 _ c5 c7 r.2 _ HR57.out HR7.out).mono ?_
      rintro e w8 ⟨rfl, q8, rfl⟩
      have hb8 : Below w0.heap.size w0 (w7.drewN q8) := ⟨HB7.out.os, HB7.out.tape, HB7.out.output, HB7.out.size, HB7.out.block⟩
      have hr8 : RdF (w7.drewN q8) (w7.drewN q8).heap.size A5 r.2.length c5 r.2 := HR57.out
      generalize w7.drewN q8 = w8 at *
      have HR8 := Lib.hid hr8
      have HT8 := Lib.hid (H2.out.belowS hb8)
      have HY := Lib.hid ((hb8.cell (p := ⟨w.heap.size, 0, none⟩) hlw).trans Z0.out)
      have HB8 := Lib.hid (hb0.trans (hb8.mono hb0.size))
      clear hr8 hb8 HR5 HR5d HR6 HR56 HR57 HR7 u6 u7 X HB5 HB6 HB7 H H1 H2 H3 Z1 Z2 Z3 HM HRA HRA2 HSM HCS x0 x1 x2 x3
      have hr24 : r.2.length ≤ maxLen := Nat.le_trans HR8.out.2.1 HR8.out.2.2.1
      unfold maxLen at hr24
      go_wp2
      go_loopw [10] (fun i wr => TbRel w8 r.2 i wr) (fun i _ => r.2.length - (intOf i).toNat)
      case atStart => exact ⟨0, Nat.zero_le _, rfl, 0, rfl⟩
      case round =>
        obtain ⟨k, hk, rfl, q, rfl⟩ := hrel
        have y0 : w8.cell? ⟨w.heap.size, 0, none⟩ = some (.slice At nt ct) := HY.out
        by_cases hlt : k < r.2.length
        · obtain ⟨f, hf⟩ : ∃ f, r.2[k]? = some f := ⟨_, List.getElem?_eq_getElem hlt⟩
          obtain ⟨b', off, rfl, hbb, hc1, hc2⟩ := HR8.out.at_ hf
          have hin := HOWN.out.2 f (List.mem_of_getElem? hf)
          clear hf
          obtain ⟨fx, ft⟩ := f
          have hd1 : w8.cell? ⟨b', off + k * 2, none⟩ = some (.string fx) := hc1
          have HIN := Lib.hid hin
          have hkz : (k : Int) < (r.2.length : Int) := by omega
          clear hin hc1 hc2
          go_wp2
          go_region_held3 (fun w' => w'.cell? ⟨w.heap.size, 0, none⟩ = some (.slice At nt ct) ∧ w'.cell? ⟨b', off + k * 2, none⟩ = some (.string fx))
            (first | exact ⟨y0, hd1⟩)
            (first
              | (go_at_call 22; refine (in_any At nt ct targets fx (w8.drewN (q + 1)) (HT8.out.drewN (q + 1)) (by omega)).mono ?_; rintro e w' ⟨rfl, rfl⟩; rw [HIN.out]))
          go_wp2
          go_roundw
          case rel => exact ⟨k + 1, by omega, by go_num, (by first | exact ⟨_, rfl⟩ | exact ⟨_, World.drewN_drewN _ _ _⟩)⟩
          case measure => simp [intOf]; omega
        · obtain rfl : k = r.2.length := by omega
          go_wp2
          go_ret
          exact ⟨rfl, ⟨HB8.out.os, HB8.out.tape, HB8.out.output, HB8.out.size, HB8.out.block⟩⟩
end Go.Proofs.YtmadegpbinnnfaaDoor
