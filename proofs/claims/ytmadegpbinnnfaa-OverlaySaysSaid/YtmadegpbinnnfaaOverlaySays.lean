/-
  THE WALK OF hammerpondlaw.OverlaySays: for every slice that reads as files, two that read as names, and one that reads as acts, the call returns true, and nothing that was there has turned.
-/
import Derived.Test.YtmadegpbinnnfaaActs
import Derived.Deep.RegionHeld3
namespace Go.Proofs.Ytmadegpbinnnfaa
open Go.RowKit

/-- How the world stands to the first one, with both overlays. -/
structure OS (w : World) (g1 g2 : Nat) (base : List F) (needs targets : List ByteArray) (own : List F) (wr : World) : Prop where
  b : Below w.heap.size w wr
  l1 : w.heap.size ≤ g1
  l2 : w.heap.size ≤ g2
  ne : g1 ≠ g2
  a : OvA wr g1 base needs targets own
  d : OvB wr g2 base needs targets own
theorem OS.below {w : World} {g1 g2 : Nat} {base own : List F} {needs targets : List ByteArray} {wr wr' : World} (h : OS w g1 g2 base needs targets own wr) (hb : Below wr.heap.size wr wr') : OS w g1 g2 base needs targets own wr' :=
  ⟨h.b.trans (hb.mono h.b.size), h.l1, h.l2, h.ne, h.a.below hb, h.d.below hb⟩
theorem OS.drewN {w : World} {g1 g2 : Nat} {base own : List F} {needs targets : List ByteArray} {wr : World} (h : OS w g1 g2 base needs targets own wr) (k : Nat) : OS w g1 g2 base needs targets own (wr.drewN k) :=
  ⟨⟨h.b.os, h.b.tape, h.b.output, h.b.size, h.b.block⟩, h.l1, h.l2, h.ne, h.a, h.d⟩
def OSRel (w : World) (g1 g2 : Nat) (base : List F) (needs targets : List ByteArray) (n : Nat) (i : Value) (wr : World) : Prop :=
  ∃ (k : Nat) (own : List F), k ≤ n ∧ i = .int .i64 k ∧ Rises own ∧ own.length ≤ k ∧ OS w g1 g2 base needs targets own wr

theorem wOwn_rises {targets : List ByteArray} {own : List F} (h : Rises own) (name text : ByteArray) : Rises (wOwn targets own name text) := by
  unfold wOwn
  split
  · split
    · exact h
    · exact rises_put h _
  · exact h
theorem wOwn_len {targets : List ByteArray} {own : List F} (h : Rises own) (name text : ByteArray) : (wOwn targets own name text).length ≤ own.length + 1 := by
  unfold wOwn
  split
  · split
    · omega
    · exact len_put_le h _
  · omega
/-- Behind both writes. -/
theorem OS.wrote {w : World} {g1 g2 : Nat} {base own own' : List F} {needs targets : List ByteArray} {wr w7 w8 : World} (h : OS w g1 g2 base needs targets own wr)
    (ha : OvA w7 g1 base needs targets own') (hg7 : wr.grownBy w7 (some g1)) (hd : OvB w8 g2 base needs targets own') (hg8 : w7.grownBy w8 (some g2)) (hn : NoStr w7 g2) : OS w g1 g2 base needs targets own' w8 :=
  ⟨(h.b.grown hg7 h.b.size (fun k hk => by have := h.l1; injection hk with hk; omega)).grown hg8 (Nat.le_trans h.b.size hg7.size) (fun k hk => by have := h.l2; injection hk with hk; omega), h.l1, h.l2, h.ne, ha.grown hg8 h.ne hn, hd⟩

set_option maxHeartbeats 4000000 in
set_option maxRecDepth 100000 in
theorem overlaySays_any (A An At Aa : Option Addr) (n c nn cn nt ct na ca : Nat) (base : List F) (needs targets : List ByteArray) (acts : List Ac) (w : World)
    (h : RdF w w.heap.size A n c base) (h1 : RdS w w.heap.size An nn cn needs) (h2 : RdS w w.heap.size At nt ct targets) (h3 : RdA w w.heap.size Aa na ca acts) :
    Calls Try.prog 4 #[.slice A n c, .slice An nn cn, .slice At nt ct, .slice Aa na ca] w fun e w' => e = .returned (.bool true) ∧ Below w.heap.size w w' := by
  have H := Lib.hid h
  have H1 := Lib.hid h1
  have H2 := Lib.hid h2
  have H3 := Lib.hid h3
  clear h h1 h2 h3
  go_enter Try.func4, Try.ntmps4
  go_wp2_with fail
  refine (overlays_any w).mono ?_
  rintro e w1 ⟨rfl, hb1⟩
  go_wp2_with fail
  refine (light_any A n c base w1 (H.out.belowS hb1)).mono ?_
  rintro e w3 ⟨b, rfl, hlit, q, rfl⟩
  have hb3 : Below w.heap.size w (w1.drewN q) := ⟨hb1.os, hb1.tape, hb1.output, hb1.size, hb1.block⟩
  clear hb1
  generalize w1.drewN q = w3 at *
  cases b with
  | false =>
    clear hlit
    go_wp2
    go_ret
    exact ⟨rfl, hb3⟩
  | true =>
    obtain ⟨h24, hrise, _⟩ := hlit rfl
    clear hlit
    go_wp2_with fail
    refine (lightTexts_any An nn cn needs 8 20 w3 (H1.out.belowS hb3) (by omega) (by omega)).mono ?_
    rintro e w4 ⟨b, rfl, hl1, rfl⟩
    cases b with
    | false =>
      clear hl1
      go_wp2
      go_ret
      exact ⟨rfl, hb3⟩
    | true =>
      have hn8 := (hl1 rfl).1
      clear hl1
      go_wp2_with fail
      refine (lightTexts_any At nt ct targets 8 20 w3 (H2.out.belowS hb3) (by omega) (by omega)).mono ?_
      rintro e w4 ⟨b, rfl, hl1, rfl⟩
      cases b with
      | false =>
        clear hl1
        go_wp2
        go_ret
        exact ⟨rfl, hb3⟩
      | true =>
        have ht8 := (hl1 rfl).1
        clear hl1
        go_wp2_with fail
        refine (lightActs_any Aa na ca acts 30 w3 (by have := H3.out.below hb3; exact ⟨this.1, this.2.1, this.2.2.1, fun hp => by obtain ⟨b, off, e, hb, hc⟩ := this.2.2.2 hp; exact ⟨b, off, e, Nat.lt_of_lt_of_le hb hb3.size, hc⟩⟩) (by omega)).mono ?_
        rintro e w4 ⟨b, rfl, hl1, rfl⟩
        cases b with
        | false =>
          clear hl1
          go_wp2
          go_ret
          exact ⟨rfl, hb3⟩
        | true =>
          have ha30 := hl1 rfl
          clear hl1
          have hna : na ≤ 30 := by rw [← H3.out.1]; exact ha30
          have hnn : nn ≤ 8 := by rw [← H1.out.1]; exact hn8
          have hnt : nt ≤ 8 := by rw [← H2.out.1]; exact ht8
          have hnb : n ≤ 24 := by rw [← H.out.1]; exact h24
          go_wp2_with fail
          refine (new_any A An At n c nn cn nt ct base needs targets w3 (H.out.belowS hb3) (H1.out.belowS hb3) (H2.out.belowS hb3) (by omega) (by omega) (by omega)).mono ?_
          rintro e w5 ⟨g1, rfl, hg1, hov, hb5⟩
          have hb35 : Below w.heap.size w w5 := hb3.trans (hb5.mono hb3.size)
          have g1l := hov.lt
          have hba := (Below.refl w5.heap.size w5).alloc (Nat.le_refl _) (.cells #[.slice A n c, .slice none 0 0, .slice An nn cn, .slice At nt ct] 47)
          have hos : OS w g1 w5.heap.size base needs targets [] (w5.alloc (.cells #[.slice A n c, .slice none 0 0, .slice An nn cn, .slice At nt ct] 47)) :=
            ⟨hb35.trans (hba.mono hb35.size), Nat.le_trans hb3.size hg1, hb35.size, by omega, hov.below hba,
              ⟨A, An, At, none, n, c, nn, cn, nt, ct, 0, 0, heap_alloc_new w5 _, (H.out.belowS hb35).belowS hba, (H1.out.belowS hb35).belowS hba, (H2.out.belowS hb35).belowS hba, RdF.nil _ _⟩⟩
          have HOS := Lib.hid hos
          clear hos hov hb5 hba hb35 hb3
          go_wp2
          generalize w5.alloc (.cells #[.slice A n c, .slice none 0 0, .slice An nn cn, .slice At nt ct] 47) = w6 at *
          generalize w5.heap.size = g2 at *
          go_loopw [12] (fun i wr => OSRel w g1 g2 base needs targets na i wr) (fun i _ => na - (intOf i).toNat)
          case atStart => exact ⟨0, [], Nat.zero_le _, rfl, List.Pairwise.nil, Nat.le_refl _, HOS.out⟩
          case round =>
            obtain ⟨k, own, hk, rfl, hro, hol, hos⟩ := hrel
            have HS := Lib.hid hos
            clear hos HOS
            by_cases hlt : k < na
            · obtain ⟨f, hf⟩ : ∃ f, acts[k]? = some f := ⟨_, List.getElem?_eq_getElem (by rw [H3.out.1]; exact hlt)⟩
              obtain ⟨b', off, rfl, hbb, hc1, hc2, hc3⟩ := (H3.out.below HS.out.b).at_ hf
              clear hf
              obtain ⟨fk, fs, ft⟩ := f
              have hkz : (k : Int) < (na : Int) := by omega
              have hol9 : own.length ≤ 900000 := by omega
              have htl9 : targets.length ≤ 1000000 := by omega
              have hbx := (Below.refl wr.heap.size wr).alloc (Nat.le_refl _) (.cells #[.string fk, .string fs, .string ft] 49)
              have hos1 := HS.out.below hbx
              have c1 : (wr.alloc (.cells #[.string fk, .string fs, .string ft] 49)).cell? ⟨wr.heap.size, 1, none⟩ = some (.string fs) := by rw [World.cell?_alloc_at _ _ _ _ rfl]; rfl
              have c2 : (wr.alloc (.cells #[.string fk, .string fs, .string ft] 49)).cell? ⟨wr.heap.size, 2, none⟩ = some (.string ft) := by rw [World.cell?_alloc_at _ _ _ _ rfl]; rfl
              have g1r := HS.out.a.lt
              have g2r := HS.out.d.lt
              have hsb : (wr.alloc (.cells #[.string fk, .string fs, .string ft] 49)).heap.size = wr.heap.size + 1 := by simp
              have HSB := Lib.hid hsb
              have HS1 := Lib.hid hos1
              have C1 := Lib.hid c1
              have C2 := Lib.hid c2
              clear hos1 hbx c1 c2 hsb
              cases hq : (fk.toList == [119, 114, 105, 116, 101]) with
              | true =>
                go_wp2
                generalize wr.alloc (.cells #[.string fk, .string fs, .string ft] 49) = wb at *
                have c1 := C1.out
                have c2 := C2.out
                have stD : OS w g1 g2 base needs targets own wb.drew := HS1.out.drewN 1
                have d1 : wb.drew.cell? ⟨wr.heap.size, 1, none⟩ = some (.string fs) := C1.out
                have d2 : wb.drew.cell? ⟨wr.heap.size, 2, none⟩ = some (.string ft) := C2.out
                have STD := Lib.hid stD
                have hne1 : some wr.heap.size ≠ some g1 := by intro e; injection e with e; omega
                have hne2 : some wr.heap.size ≠ some g2 := by intro e; injection e with e; omega
                have N1 := Lib.hid hne1
                have N2 := Lib.hid hne2
                clear stD hne1 hne2 C1 C2
                go_region_held3 (fun w' => w'.cell? ⟨wr.heap.size, 1, none⟩ = some (.string fs) ∧ w'.cell? ⟨wr.heap.size, 2, none⟩ = some (.string ft))
                  (first | exact ⟨e81, e82⟩ | exact ⟨e71, e72⟩ | exact ⟨d1, d2⟩ | exact ⟨c1, c2⟩)
                  (first
                    | (go_at_call 24; refine (write_any g1 base needs targets own fs ft _ STD.out.a hro hol9 htl9).mono ?_; rintro e w7 ⟨rfl, hov7, hg7⟩; have e71 : w7.cell? ⟨wr.heap.size, 1, none⟩ = some (.string fs) := hg7.cell d1 N1.out; have e72 : w7.cell? ⟨wr.heap.size, 2, none⟩ = some (.string ft) := hg7.cell d2 N1.out; have O7 := Lib.hid hov7; have G7 := Lib.hid hg7; have D7 := Lib.hid (STD.out.d.grown hg7 STD.out.ne.symm STD.out.a.noStr); clear hov7 hg7)
                    | (go_at_call 25; refine (refWrite_any g2 base needs targets own fs ft _ D7.out hro hol9 htl9).mono ?_; rintro e w8 ⟨rfl, hov8, hg8⟩; have e81 : w8.cell? ⟨wr.heap.size, 1, none⟩ = some (.string fs) := hg8.cell e71 N2.out; have e82 : w8.cell? ⟨wr.heap.size, 2, none⟩ = some (.string ft) := hg8.cell e72 N2.out; have HS8 := Lib.hid (STD.out.wrote O7.out G7.out hov8 hg8 D7.out.noStr); clear hov8 hg8)
                    | (go_at_call 12; refine (same_errV _ (wErr_nn _ _ _) _).mono ?_; rintro e w' ⟨rfl, rfl⟩))
                have hro' := wOwn_rises (targets := targets) hro fs ft
                have hol' := wOwn_len (targets := targets) hro fs ft
                clear c1 c2 d1 d2 STD N1 N2 O7 G7 D7
                generalize wOwn targets own fs ft = own' at *
                have holx : own'.length ≤ 900000 := by omega
                obtain ⟨Bb, Bn, Bt, Bo, mb, db, mn, dn, mt, dt, mo, do_, f0, _, _, _, f4⟩ := HS8.out.d
                obtain rfl : mo = own'.length := f4.1.symm
                have z1 : w8.cell? ⟨g2, 1, none⟩ = some (.slice Bo own'.length do_) := f0.cell 1
                have F4 := Lib.hid f4
                have F0 := Lib.hid f0
                clear f0 f4
                have stE : OS w g1 g2 base needs targets own' w8.drew := HS8.out.drewN 1
                have STE := Lib.hid stE
                clear stE
                go_wp2
                go_region_held3 (fun w' => w'.cell? ⟨g2, 1, none⟩ = some (.slice Bo own'.length do_))
                  (first | exact z3 | exact z2 | exact z1)
                  (first
                    | (go_at_call 28; refine (own_any g1 base needs targets own' _ STE.out.a holx).mono ?_; rintro e w11 ⟨v11, rfl, hown11, hb11⟩; obtain ⟨A11, k11, rfl, hr11⟩ := RdF.of_own hown11; have z2 : w11.cell? ⟨g2, 1, none⟩ = some (.slice Bo own'.length do_) := (hb11.cell (p := ⟨g2, 1, none⟩) STE.out.d.lt).trans z1; have ST11 := Lib.hid (STE.out.below hb11); have HP11 := Lib.hid hr11; have HQ11 := Lib.hid ((show RdF w8.drew w8.drew.heap.size Bo own'.length do_ own' from F4.out).belowS hb11); clear hb11 hown11 hr11)
                    | (go_at_call 15; refine (same_any A11 Bo _ k11 do_ own' _ HP11.out HQ11.out).mono ?_; rintro e w12 ⟨rfl, q12, rfl⟩; have z3 : (w11.drewN q12).cell? ⟨g2, 1, none⟩ = some (.slice Bo own'.length do_) := z2; have ST12 := Lib.hid (ST11.out.drewN q12)))
                go_wp2
                go_roundw
                case rel => exact ⟨k + 1, own', by omega, by go_num, hro', by omega, ST12.out⟩
                case measure => simp [intOf]; omega
              | false =>
                go_wp2_with fail
                generalize wr.alloc (.cells #[.string fk, .string fs, .string ft] 49) = wb at *
                refine (read_any g1 base needs targets own fs wb HS1.out.a hro hrise hol9 (by omega) (by omega)).mono ?_
                rintro e w7 ⟨rfl, hb7⟩
                have c1 : w7.cell? ⟨wr.heap.size, 1, none⟩ = some (.string fs) := (hb7.cell (p := ⟨wr.heap.size, 1, none⟩) (by rw [HSB.out]; simp)).trans C1.out
                have HS7 := Lib.hid (HS1.out.below hb7)
                clear hb7 HS1 C1 C2
                go_wp2_with fail
                refine (refRead_any g2 base needs targets own fs w7 HS7.out.d hol9 (by omega) (by omega)).mono ?_
                rintro e w8 ⟨rfl, rfl⟩
                go_wp2_with fail
                refine (same_errV _ (rErr_nn _ _ _ _) _).mono ?_
                rintro e w8 ⟨rfl, rfl⟩
                have holx : own.length ≤ 900000 := hol9
                obtain ⟨Bb, Bn, Bt, Bo, mb, db, mn, dn, mt, dt, mo, do_, f0, _, _, _, f4⟩ := HS7.out.d
                obtain rfl : mo = own.length := f4.1.symm
                have z1 : w7.cell? ⟨g2, 1, none⟩ = some (.slice Bo own.length do_) := f0.cell 1
                have F4 := Lib.hid f4
                have F0 := Lib.hid f0
                clear f0 f4
                have stE : OS w g1 g2 base needs targets own w7.drew := HS7.out.drewN 1
                have STE := Lib.hid stE
                clear stE
                go_wp2
                go_region_held3 (fun w' => w'.cell? ⟨g2, 1, none⟩ = some (.slice Bo own.length do_))
                  (first | exact z3 | exact z2 | exact z1)
                  (first
                    | (go_at_call 28; refine (own_any g1 base needs targets own _ STE.out.a holx).mono ?_; rintro e w11 ⟨v11, rfl, hown11, hb11⟩; obtain ⟨A11, k11, rfl, hr11⟩ := RdF.of_own hown11; have z2 : w11.cell? ⟨g2, 1, none⟩ = some (.slice Bo own.length do_) := (hb11.cell (p := ⟨g2, 1, none⟩) STE.out.d.lt).trans z1; have ST11 := Lib.hid (STE.out.below hb11); have HP11 := Lib.hid hr11; have HQ11 := Lib.hid ((show RdF w7.drew w7.drew.heap.size Bo own.length do_ own from F4.out).belowS hb11); clear hb11 hown11 hr11)
                    | (go_at_call 15; refine (same_any A11 Bo _ k11 do_ own _ HP11.out HQ11.out).mono ?_; rintro e w12 ⟨rfl, q12, rfl⟩; have z3 : (w11.drewN q12).cell? ⟨g2, 1, none⟩ = some (.slice Bo own.length do_) := z2; have ST12 := Lib.hid (ST11.out.drewN q12)))
                go_wp2
                go_roundw
                case rel => exact ⟨k + 1, own, by omega, by go_num, hro, by omega, ST12.out⟩
                case measure => simp [intOf]; omega
            · obtain rfl : k = na := by omega
              go_wp2
              go_ret
              exact ⟨rfl, HS.out.b⟩
end Go.Proofs.Ytmadegpbinnnfaa
