/-
  WALK: makefile.addLine: what a line makes of the description in memory.
-/
import Derived.Test.YtlkpbpecgdphaaaGreatDoorWell
import Derived.Deep.RegionHeld3
import Derived.Deep.AppendLies
namespace Go.Proofs.YtlkpbpecgdphaaaGreatDoor
open Go.RowKit

theorem wordsR_len (l : Bs) : (wordsR l).length ≤ l.length + 1 := by
  unfold wordsR
  rw [List.length_map]
  exact fldGo_len [] l
theorem rdS_below {w w' : World} {B : Nat} {v : Value} {l : List ByteArray} (h : Own1 w B v l) (hb : Below w.heap.size w w') : Own1 w' B v l := h.kept (grown_of_below hb) (by cases v.ownBlock <;> simp)

set_option maxHeartbeats 4000000 in
set_option maxRecDepth 100000 in
theorem addRule_any (B g : Nat) (m : Mk) (s : ByteArray) (w : World) (h : MkIn w B g m) (hB : B ≤ w.heap.size) (hG : GB g B) (hmx : MaxOk w) (hsn : Sane m 100000) (hs : s.size ≤ 1000) :
    Calls Tryz.prog 84 #[.pointer (some ⟨g, 0, none⟩), .string s] w (AdPost B g (ruleR m s) w) := by
  obtain ⟨i, hi, hz, hsz, hby⟩ := rule_parts
  have HI := Lib.hid hi
  have HZ := Lib.hid hz
  have HS := Lib.hid hsz
  have HBY := Lib.hid hby
  clear hi hz hsz hby
  obtain ⟨r, hr⟩ : ∃ r, r = ruleR m s := ⟨_, rfl⟩
  rw [← hr]
  unfold ruleR at hr
  have HR := Lib.hid hr
  have HMX := Lib.hid hmx
  have HSN := Lib.hid hsn
  have HG := Lib.hid hG
  obtain ⟨vv, vr, vp, R, hm⟩ := h
  have hlr := hm.len
  have hnr : R.length ≤ 100000 := by rw [hlr]; exact hsn.rules
  obtain ⟨A, c, rfl, hrd⟩ := hm.rdVars
  have hc0 := hm.cell.1
  have HM := Lib.hid hm
  have HRD := Lib.hid hrd
  have HLR := Lib.hid hlr
  clear hr hm hrd hmx hsn hG hlr
  generalize hnv : m.vars.length = nv at *
  have hnv' : nv ≤ 100000 := by rw [← hnv]; exact HSN.out.vars
  clear hnv
  have HT := Lib.hid (fun v hv => Nat.le_trans (HSN.out.texts v hv) (by omega : 600 ≤ 1000))
  obtain ⟨ev, hev⟩ : ∃ ev, ev = expR m.vars 5 s.data.toList := ⟨_, rfl⟩
  rw [← hev] at HR
  have HEV := Lib.hid hev
  clear hev
  have hlen600 : ev.1 = 0 → ev.2.length ≤ 600 := by
    rw [HEV.out]
    intro h
    exact expL_len _ _ _ _ (Prod.ext h rfl)
  go_enter Tryz.func84, Tryz.ntmps84
  go_wp2_with fail
  refine (expText_any A nv c m.vars s w HRD.out HT.out (by omega) hs HMX.out).mono ?_
  rintro e w1 ⟨rfl, hb1⟩
  rw [← HEV.out]
  have HM1 := Lib.hid (HM.out.below hb1)
  have HF1 := Lib.hid (Fr.of_below (g := g) hb1 hB)
  have HX1 := Lib.hid (HMX.out.below hb1)
  have hB1 : B ≤ w1.heap.size := by have := hb1.size; omega
  clear hb1 hc0 HM HRD HMX
  obtain ⟨e, t⟩ := ev
  dsimp only at hlen600
  by_cases h0 : e = 0
  · subst h0
    have htl := hlen600 rfl
    have e0 : errV ((((0 : Nat), t) : Nat × Bs).1 : Int) = .nilIface := rfl
    rw [e0]
    clear e0 hlen600
    have hx := HR.out
    rw [if_neg (by simp)] at hx
    unfold headR at hx
    have HX := Lib.hid hx
    clear hx HR
    have htz : (ba t).size ≤ 600 := by rw [ba_size]; exact htl
    go_wp2_with fail
    refine (cut_any (ba t) ⟨#[58]⟩ [58] rfl w1 (by omega) HX1.out).mono ?_
    rintro e w2 ⟨j2, rfl, rfl⟩
    have hb2 := below_drewN w1 j2
    have HM2 := Lib.hid (HM1.out.below hb2)
    have HF2 := Lib.hid (HF1.out.trans (Fr.of_below (g := g) hb2 hB1))
    have HX2 := Lib.hid (HX1.out.below hb2)
    have hB2 : B ≤ (w1.drewN j2).heap.size := by have := hb2.size; omega
    clear hb2 HM1 HF1 HX1
    generalize w1.drewN j2 = w2 at *
    unfold cutB
    rw [ba_data]
    have hcl := cut_fst_len t [58]
    revert HX hcl
    generalize Lib.cut t [58] = cc
    obtain ⟨bf, af, fd⟩ := cc
    intro HX hcl
    dsimp only at HX hcl ⊢
    have hbz : (ba bf).size ≤ 600 := by rw [ba_size]; omega
    have haz : (ba af).size ≤ 600 := by rw [ba_size]; omega
    have hwl1 := wordsR_len bf
    have hwl2 := wordsR_len af
    have HW1 := Lib.hid (fun x (hx : x ∈ wordsR bf) => Nat.le_trans (wordsR_size hx) (by omega : bf.length ≤ 1000))
    have HW2 := Lib.hid (fun x (hx : x ∈ wordsR af) => Nat.le_trans (wordsR_size hx) (by omega : af.length ≤ 1000))
    go_wp2_with fail
    refine (words_any (ba bf) w2 (by omega)).mono ?_
    rw [ba_data]
    rintro e w3 ⟨A3, rfl, hA3, ho3, hb3⟩
    have HM3 := Lib.hid (HM2.out.below hb3)
    have HF3 := Lib.hid (HF2.out.trans (Fr.of_below (g := g) hb3 hB2))
    have HX3 := Lib.hid (HX2.out.below hb3)
    have HO3 := Lib.hid ho3
    have hB3 : B ≤ w3.heap.size := by have := hb3.size; omega
    have hA3l : A3 < w3.heap.size := (ho3.lt A3 rfl).2
    have HAT := Lib.hid (show ∀ v ∈ vp :: rcells R, ∀ k, v.ownBlock = some k → k < w2.heap.size from fun v hv k hk => by obtain ⟨l, hl⟩ := HM2.out.str hv; exact (hl.lt k hk).2)
    clear hb3 HM2 HF2 HX2 ho3
    go_wp2_with fail
    refine (words_any (ba af) w3 (by omega)).mono ?_
    rw [ba_data]
    rintro e w4 ⟨A4, rfl, hA4, ho4, hb4⟩
    have HM4 := Lib.hid (HM3.out.below hb4)
    have HF4 := Lib.hid (HF3.out.trans (Fr.of_below (g := g) hb4 hB3))
    have HX4 := Lib.hid (HX3.out.below hb4)
    obtain ⟨Ar, cr, hvr⟩ := own_slice HM4.out.rules
    subst hvr
    have HVR := Lib.hid (fun k hk => (HM4.out.rules.lt k hk).2)
    have hgw : g < w4.heap.size := HM4.out.lt
    have hng : ∀ j, (⟨g, 1, none⟩ : Addr) ≠ ⟨w4.heap.size, j, none⟩ := fun j e => by injection e with e; omega
    have HO4 := Lib.hid (ho4.mono (by omega : B ≤ w3.heap.size))
    have HO34 := Lib.hid (rdS_below (HO3.out.mono hB2) hb4)
    have hB4 : B ≤ w4.heap.size := by have := hb4.size; omega
    have hws : w2.heap.size ≤ w3.heap.size := by omega
    have hA4l : A4 < w4.heap.size := (ho4.lt A4 rfl).2
    have hA3m : A3 < w4.heap.size := by have := hb4.size; omega
    clear hb4 HM3 HF3 HX3 ho4 HO3
    generalize hT : wordsR bf = T at *
    generalize hN : wordsR af = N at *
    clear hT hN
    have hba : Below w4.heap.size w4 (w4.alloc (.cells #[.slice (some ⟨A3, 0, none⟩) T.length T.length, .slice (some ⟨A4, 0, none⟩) N.length N.length, .slice none 0 0] 115)) := (Below.refl _ _).alloc (Nat.le_refl _) _
    have q0 : (w4.alloc (.cells #[.slice (some ⟨A3, 0, none⟩) T.length T.length, .slice (some ⟨A4, 0, none⟩) N.length N.length, .slice none 0 0] 115)).cell? ⟨w4.heap.size, 0, none⟩ = some (.slice (some ⟨A3, 0, none⟩) T.length T.length) := by rw [World.cell?_alloc_at _ _ _ _ rfl]; rfl
    have q1 : (w4.alloc (.cells #[.slice (some ⟨A3, 0, none⟩) T.length T.length, .slice (some ⟨A4, 0, none⟩) N.length N.length, .slice none 0 0] 115)).cell? ⟨w4.heap.size, 1, none⟩ = some (.slice (some ⟨A4, 0, none⟩) N.length N.length) := by rw [World.cell?_alloc_at _ _ _ _ rfl]; rfl
    have q2 : (w4.alloc (.cells #[.slice (some ⟨A3, 0, none⟩) T.length T.length, .slice (some ⟨A4, 0, none⟩) N.length N.length, .slice none 0 0] 115)).cell? ⟨w4.heap.size, 2, none⟩ = some (.slice none 0 0) := by rw [World.cell?_alloc_at _ _ _ _ rfl]; rfl
    have HM5 := Lib.hid (HM4.out.below hba)
    have HF5 := Lib.hid (HF4.out.trans (Fr.of_below (g := g) hba hB4))
    have HX5 := Lib.hid (HX4.out.below hba)
    have HO5 := Lib.hid (rdS_below HO4.out hba)
    have HO35 := Lib.hid (rdS_below HO34.out hba)
    have hB5 : B ≤ (w4.alloc (.cells #[.slice (some ⟨A3, 0, none⟩) T.length T.length, .slice (some ⟨A4, 0, none⟩) N.length N.length, .slice none 0 0] 115)).heap.size := by have := hba.size; omega
    have hl5 : w4.heap.size < (w4.alloc (.cells #[.slice (some ⟨A3, 0, none⟩) T.length T.length, .slice (some ⟨A4, 0, none⟩) N.length N.length, .slice none 0 0] 115)).heap.size := by simp
    have q3 := HM5.out.cell.2.1
    clear hba HM4 HF4 HX4 HO4 HO34
    have hx := HX.out
    clear HX
    rw [← HLR.out] at hx
    have HX := Lib.hid hx
    clear hx
    cases fd with
    | false =>
      go_wp2
      go_ret
      have hx := HX.out
      rw [if_pos (.inl (by trivial))] at hx
      exact ⟨by rw [errK 4 (by decide) (by rw [hx])]; rfl, by rw [hx]; exact ⟨_, _, _, _, HM5.out⟩, HF5.out⟩
    | true =>
    by_cases ht0 : T.length = 0
    · have t1 : ((T.length : Int) == 0) = true := by rw [ht0]; rfl
      have HT0 := Lib.hid ht0
      clear ht0
      go_wp2
      go_ret
      have hx := HX.out
      rw [if_pos (.inr HT0.out)] at hx
      exact ⟨by rw [errK 4 (by decide) (by rw [hx])]; rfl, by rw [hx]; exact ⟨_, _, _, _, HM5.out⟩, HF5.out⟩
    have t1 : ((T.length : Int) == 0) = false := by rw [beq_eq_false_iff_ne]; omega
    have hx := HX.out
    rw [if_neg (by rintro (h | h); cases h; exact ht0 h)] at hx
    have HY := Lib.hid hx
    clear hx HX
    by_cases ht2 : 2 < T.length
    · have t2 : (2 : Int) < (T.length : Int) := by omega
      go_wp2
      go_ret
      have hx := HY.out
      rw [if_pos (.inl ht2)] at hx
      exact ⟨by rw [errK 2 (by decide) (by rw [hx])]; rfl, by rw [hx]; exact ⟨_, _, _, _, HM5.out⟩, HF5.out⟩
    have t2 : decide ((2 : Int) < (T.length : Int)) = false := decide_eq_false (by omega)
    by_cases ht3 : 3 < N.length
    · have t3 : (3 : Int) < (N.length : Int) := by omega
      go_wp2
      go_ret
      have hx := HY.out
      rw [if_pos (.inr (.inl ht3))] at hx
      exact ⟨by rw [errK 2 (by decide) (by rw [hx])]; rfl, by rw [hx]; exact ⟨_, _, _, _, HM5.out⟩, HF5.out⟩
    have t3 : decide ((3 : Int) < (N.length : Int)) = false := decide_eq_false (by omega)
    by_cases ht4 : 10 ≤ R.length
    · have t4 : (10 : Int) ≤ (R.length : Int) := by omega
      go_wp2
      go_ret
      have hx := HY.out
      rw [if_pos (.inr (.inr ht4))] at hx
      exact ⟨by rw [errK 2 (by decide) (by rw [hx])]; rfl, by rw [hx]; exact ⟨_, _, _, _, HM5.out⟩, HF5.out⟩
    have t4 : decide ((10 : Int) ≤ (R.length : Int)) = false := decide_eq_false (by omega)
    have hx := HY.out
    rw [if_neg (by omega)] at hx
    have HZZ := Lib.hid hx
    clear hx HY
    obtain ⟨_, _, e3, hrd3⟩ := RdS.of_own HO35.out
    obtain ⟨_, _, e4, hrd4⟩ := RdS.of_own HO5.out
    simp only [Value.slice.injEq, true_and] at e3 e4
    obtain ⟨rfl, rfl⟩ := e3
    obtain ⟨rfl, rfl⟩ := e4
    have HD3 := Lib.hid hrd3
    have HD4 := Lib.hid hrd4
    clear hrd3 hrd4
    have hbr : B ≤ w4.heap.size := hB4
    have hw34 : A4 < w4.heap.size ∧ A3 < w4.heap.size := by omega
    go_wp2_with fail
    generalize hW : w4.alloc (.cells #[.slice (some ⟨A3, 0, none⟩) T.length T.length, .slice (some ⟨A4, 0, none⟩) N.length N.length, .slice none 0 0] 115) = w5 at *
    refine (wellShaped_any _ _ _ _ _ _ _ _ _ T N w5 HD3.out HD4.out (by omega) (by omega) HW1.out HW2.out HX5.out).mono ?_
    rintro e w6 ⟨rfl, hb6⟩
    have HM6 := Lib.hid (HM5.out.below hb6)
    have HF6 := Lib.hid (HF5.out.trans (Fr.of_below (g := g) hb6 hB5))
    have HO6 := Lib.hid (rdS_below HO5.out hb6)
    have HO36 := Lib.hid (rdS_below HO35.out hb6)
    have hB6 : B ≤ w6.heap.size := by have := hb6.size; omega
    have y0 := (hb6.cell (p := ⟨w4.heap.size, 0, none⟩) hl5).trans q0
    have y1 := (hb6.cell (p := ⟨w4.heap.size, 1, none⟩) hl5).trans q1
    have y2 := (hb6.cell (p := ⟨w4.heap.size, 2, none⟩) hl5).trans q2
    have y3 := HM6.out.cell.2.1
    have hl6 : w4.heap.size < w6.heap.size := by have := hb6.size; omega
    clear hb6 HM5 HF5 HO5 HO35 HX5 q0 q1 q2 q3 HD3 HD4 hW
    cases hsh : shapedR T N with
    | false =>
      go_wp2
      go_ret
      have hx := HZZ.out
      rw [if_pos hsh] at hx
      exact ⟨by rw [errK 3 (by decide) (by rw [hx])]; rfl, by rw [hx]; exact ⟨_, _, _, _, HM6.out⟩, HF6.out⟩
    | true =>
      have hx := HZZ.out
      rw [if_neg (by rw [hsh]; simp)] at hx
      have HY := Lib.hid hx
      clear hx HZZ
      have d0 : w6.drew.cell? ⟨w4.heap.size, 0, none⟩ = some (.slice (some ⟨A3, 0, none⟩) T.length T.length) := y0
      have d1 : w6.drew.cell? ⟨w4.heap.size, 1, none⟩ = some (.slice (some ⟨A4, 0, none⟩) N.length N.length) := y1
      have d2 : w6.drew.cell? ⟨w4.heap.size, 2, none⟩ = some (.slice none 0 0) := y2
      have d3 : w6.drew.cell? ⟨g, 1, none⟩ = some (.slice Ar R.length cr) := y3
      have hba : Below w6.heap.size w6 ((w6.alloc (.cells #[.slice (some ⟨A3, 0, none⟩) T.length T.length, .slice (some ⟨A4, 0, none⟩) N.length N.length, .slice none 0 0] 115)).drew) := ((Below.refl _ _).alloc (Nat.le_refl _) _).drew
      have HM7 := Lib.hid (HM6.out.below hba)
      have HF7 := Lib.hid (HF6.out.trans (Fr.of_below (g := g) hba hB6))
      have HO7 := Lib.hid (rdS_below HO6.out hba)
      have HO37 := Lib.hid (rdS_below HO36.out hba)
      have HC7 := Lib.hid (show ∀ j u, [Value.slice (some ⟨A3, 0, none⟩) T.length T.length, .slice (some ⟨A4, 0, none⟩) N.length N.length, .slice none 0 0][j]? = some u → ((w6.alloc (.cells #[.slice (some ⟨A3, 0, none⟩) T.length T.length, .slice (some ⟨A4, 0, none⟩) N.length N.length, .slice none 0 0] 115)).drew).cell? ((⟨w6.heap.size, 0, none⟩ : Addr).add j) = some u from cells_new w6 #[.slice (some ⟨A3, 0, none⟩) T.length T.length, .slice (some ⟨A4, 0, none⟩) N.length N.length, .slice none 0 0] 115)
      have HE7 := Lib.hid HM7.out.rules
      have hsz7 : ((w6.alloc (.cells #[.slice (some ⟨A3, 0, none⟩) T.length T.length, .slice (some ⟨A4, 0, none⟩) N.length N.length, .slice none 0 0] 115)).drew).heap.size = w6.heap.size + 1 := by simp
      have hB7 : B ≤ ((w6.alloc (.cells #[.slice (some ⟨A3, 0, none⟩) T.length T.length, .slice (some ⟨A4, 0, none⟩) N.length N.length, .slice none 0 0] 115)).drew).heap.size := by rw [hsz7]; omega
      have hk8 : ∀ w8, ((w6.alloc (.cells #[.slice (some ⟨A3, 0, none⟩) T.length T.length, .slice (some ⟨A4, 0, none⟩) N.length N.length, .slice none 0 0] 115)).drew).grownBy w8 (Value.slice Ar R.length cr).ownBlock → (w8.cell? ⟨g, 1, none⟩ = some (.slice Ar R.length cr) ∧ w8.cell? ⟨w4.heap.size, 0, none⟩ = some (.slice (some ⟨A3, 0, none⟩) T.length T.length) ∧ w8.cell? ⟨w4.heap.size, 1, none⟩ = some (.slice (some ⟨A4, 0, none⟩) N.length N.length) ∧ w8.cell? ⟨w4.heap.size, 2, none⟩ = some (.slice none 0 0)) ∧ w8.frozen? ⟨g, 1, none⟩ = false := by
        intro w8 hg8
        have hb8 : w8.heap[g]? = some (.cells #[.slice A nv c, .slice Ar R.length cr, vp] 29 (0, 0)) := (hg8.block g HM7.out.lt (row_not_blk HM7.out.rules HM7.out.blk (by decide))).trans HM7.out.blk
        have hbl : w8.heap[w4.heap.size]? = w6.heap[w4.heap.size]? := (hg8.block w4.heap.size (by rw [hsz7]; omega) (fun e => by have := HVR.out _ e.symm; omega)).trans (Below.heap_alloc w6 _ _ hl6)
        exact ⟨⟨by simp [World.cell?, hb8], (World.cell?_of_block (w := w6) hbl).trans y0, (World.cell?_of_block (w := w6) hbl).trans y1, (World.cell?_of_block (w := w6) hbl).trans y2⟩, by simp [World.frozen?, hb8]⟩
      have HK8 := Lib.hid hk8
      have d3A := HM7.out.cell.2.1
      clear hk8 hba HM6 HF6 HO6 HO36
      go_wp2_with fail
      go_region_law
        (first
          | (refine step_append_lies _ (by rfl) (.tmp 70) (.tmp 72) _ (by rfl) B 115 i _ 3 72 Tryz.underlying26 HI.out HZ.out HS.out HBY.out rfl (by decide) _ _ _ (by rfl) HE7.out ⟨w6.heap.size, 0, none⟩ 1 1 [.slice (some ⟨A3, 0, none⟩) T.length T.length, .slice (some ⟨A4, 0, none⟩) N.length N.length, .slice none 0 0] (by rfl) rfl HC7.out (by simp [Value.oneCell']) (by decide) (by unfold maxLen; omega) (by omega) hB7 (w6.heap.size + 1) hsz7 ?_; intro g8 cap8 w8 hown8 hg8 hat8 hlt8; obtain ⟨⟨e3, e0, e1, e2⟩, f3⟩ := HK8.out w8 hg8; have HO8 := Lib.hid hown8; have HG8 := Lib.hid hg8; clear hown8 hg8 hat8))
      all_goals go_wp2
      all_goals go_ret
      all_goals (
        have hmv := HM7.out.moreRule T N HO37.out HO7.out (fun v hv => ⟨Apart.far (HAT.out v hv) (fun k hk => by simp only [Value.ownBlock, Option.some.injEq] at hk; omega), Apart.far (HAT.out v hv) (fun k hk => by simp only [Value.ownBlock, Option.some.injEq] at hk; omega)⟩) (.inr (by simp only [Value.ownBlock]; intro e; injection e with e; omega)) HO8.out HG8.out
        have hfr := (HF7.out.trans (Fr.of_grown HG8.out hB7 (fun j hj => .inl (HM7.out.rules.lt j hj).1))).setCell 1 (.slice (some ⟨g8, 0, none⟩) (R.length + 1) cap8)
        exact ⟨by rw [err0 (by rw [HY.out])]; rfl, by rw [HY.out]; exact ⟨_, _, _, _, hmv⟩, hfr⟩)
  · have hx := HR.out
    rw [if_pos (by exact h0)] at hx
    have HX2 := Lib.hid hx
    clear hx HR
    rw [errV_pos (k := (((e, t) : Nat × Bs).1 : Int)) (by show (e : Int) ≠ 0; omega)]
    go_wp2
    go_ret
    exact ⟨by rw [errK e h0 (by rw [HX2.out])]; rfl, by rw [HX2.out]; exact ⟨_, _, _, _, HM1.out⟩, HF1.out⟩
end Go.Proofs.YtlkpbpecgdphaaaGreatDoor
namespace Go.Proofs.YtlkpbpecgdphaaaGreatDoor
open Go.RowKit

theorem noteB_nil {s : ByteArray} (h : s.size = 0) : noteB s = true := by
  have : s.data.toList = [] := List.eq_nil_of_length_eq_zero (by simpa using h)
  unfold noteB
  rw [this]
theorem noteB_at {s : ByteArray} (h : 0 < s.size) : noteB s = decide (s[0] = 35) := by
  unfold noteB
  have e : s.data.toList = s[0] :: s.data.toList.drop 1 := by
    have := List.drop_eq_getElem_cons (l := s.data.toList) (i := 0) (by simpa using h)
    rw [List.drop_zero] at this
    exact this
  rw [e]
set_option maxHeartbeats 2000000 in
set_option maxRecDepth 100000 in
theorem addLine_any (B g : Nat) (m : Mk) (s : ByteArray) (w : World) (h : MkIn w B g m) (hB : B ≤ w.heap.size) (hG : GB g B) (hmx : MaxOk w) (hsn : Sane m 100000) (hs : s.size ≤ 600) :
    Calls Tryz.prog 50 #[.pointer (some ⟨g, 0, none⟩), .string s] w (AdPost B g (lineR m s) w) := by
  obtain ⟨r, hr⟩ : ∃ r, r = lineR m s := ⟨_, rfl⟩
  rw [← hr]
  unfold lineR at hr
  have HR := Lib.hid hr
  have H0 := Lib.hid h
  have HMX := Lib.hid hmx
  have HSN := Lib.hid hsn
  have HG := Lib.hid hG
  clear hr h hmx hsn hG
  have hdone : noteB s = true → r = (0, m) := fun hn => by have := HR.out; rw [if_pos hn] at this; exact this
  have HD := Lib.hid hdone
  clear hdone
  by_cases h0 : s.size = 0
  · have HN := Lib.hid (HD.out (noteB_nil h0))
    have t1 : (s.toList == []) = true := by
      have : s.data.toList = [] := List.eq_nil_of_length_eq_zero (by simpa using h0)
      rw [Lib.toList_data, this]
      rfl
    clear h0
    go_enter Tryz.func50, Tryz.ntmps50
    go_wp2
    go_ret
    exact ⟨by rw [HN.out]; rfl, by rw [HN.out]; exact H0.out, Fr.refl _ _ _⟩
  have hpos : 0 < s.size := by omega
  have t1 : (s.toList == []) = false := by
    rw [beq_eq_false_iff_ne]
    intro e
    apply h0
    have := congrArg List.length e
    rw [Lib.toList_data] at this
    simpa using this
  have hpz : (0 : Int) < (s.size : Int) := by omega
  cases hq : ((s[0].toNat : Int) == 35) with
  | true =>
    have hb : s[0] = 35 := by
      have h' : (s[0].toNat : Int) = 35 := by simpa using hq
      exact UInt8.toNat_inj.1 (by have : (35 : UInt8).toNat = 35 := rfl; omega)
    have HN := Lib.hid (HD.out (by rw [noteB_at hpos, hb]; rfl))
    clear hb
    go_enter Tryz.func50, Tryz.ntmps50
    go_wp2
    go_ret
    exact ⟨by rw [HN.out]; rfl, by rw [HN.out]; exact H0.out, Fr.refl _ _ _⟩
  | false =>
    have hnb : noteB s = false := by
      rw [noteB_at hpos]
      apply decide_eq_false
      intro e
      rw [e] at hq
      simp at hq
    have hx := HR.out
    rw [if_neg (by rw [hnb]; simp)] at hx
    have HX := Lib.hid hx
    clear hx HR HD hnb
    go_enter Tryz.func50, Tryz.ntmps50
    go_wp2_with fail
    refine (cutPrefix_any s ⟨#[9]⟩ w (by omega)).mono ?_
    rintro e w' ⟨rfl, rfl⟩
    have e9 : (⟨#[9]⟩ : ByteArray).data.toList = [9] := rfl
    rw [e9]
    cases h9 : Lib.hasPrefix s.data.toList [9] with
    | true =>
      have hx := HX.out
      rw [if_pos h9] at hx
      have HY := Lib.hid hx
      clear hx HX
      have e1 : (if true = true then s.extract (⟨#[9]⟩ : ByteArray).size s.size else s) = s.extract 1 s.size := rfl
      rw [e1]
      have hz : (s.extract 1 s.size).size ≤ 1000 := by rw [ByteArray.size_extract]; omega
      go_wp2_with fail
      generalize s.extract 1 s.size = q at *
      refine (addCommand_any B g m q w H0.out hB HG.out HMX.out HSN.out hz).mono ?_
      rw [← HY.out]
      rintro e w2 ⟨rfl, hm2, hf2⟩
      have HM := Lib.hid hm2
      have HF := Lib.hid hf2
      clear hm2 hf2
      go_wp2
      go_ret
      exact ⟨rfl, HM.out, HF.out⟩
    | false =>
      have hx := HX.out
      rw [if_neg (by rw [h9]; simp)] at hx
      have HY := Lib.hid hx
      clear hx HX
      have e1 : (if false = true then s.extract (⟨#[9]⟩ : ByteArray).size s.size else s) = s := rfl
      rw [e1]
      clear e1 e9
      go_wp2_with fail
      refine (cutPrefix_any s ⟨#[112, 104, 111, 110, 121, 32]⟩ w (by omega)).mono ?_
      rintro e w' ⟨rfl, rfl⟩
      have e9 : (⟨#[112, 104, 111, 110, 121, 32]⟩ : ByteArray).data.toList = [112, 104, 111, 110, 121, 32] := rfl
      rw [e9]
      cases h6 : Lib.hasPrefix s.data.toList [112, 104, 111, 110, 121, 32] with
      | true =>
        have hx := HY.out
        rw [if_pos h6] at hx
        have HZ := Lib.hid hx
        clear hx HY
        have e1 : (if true = true then s.extract (⟨#[112, 104, 111, 110, 121, 32]⟩ : ByteArray).size s.size else s) = s.extract 6 s.size := rfl
        rw [e1]
        have hz : (s.extract 6 s.size).size ≤ 1000 := by rw [ByteArray.size_extract]; omega
        go_wp2_with fail
        generalize s.extract 6 s.size = q at *
        refine (addPhony_any B g m q w H0.out hB (Nat.le_trans HSN.out.phony (by omega)) (by omega)).mono ?_
        rw [← HZ.out]
        rintro e w2 ⟨rfl, hm2, hf2⟩
        have HM := Lib.hid hm2
        have HF := Lib.hid hf2
        clear hm2 hf2
        go_wp2
        go_ret
        exact ⟨rfl, HM.out, HF.out⟩
      | false =>
        have hx := HY.out
        rw [if_neg (by rw [h6]; simp)] at hx
        have HZ := Lib.hid hx
        clear hx HY
        have e1 : (if false = true then s.extract (⟨#[112, 104, 111, 110, 121, 32]⟩ : ByteArray).size s.size else s) = s := rfl
        rw [e1]
        clear e1 e9
        go_wp2_with fail
        refine (cut_any s ⟨#[32, 61, 32]⟩ [32, 61, 32] rfl w (by omega) HMX.out).mono ?_
        rintro e w2 ⟨j2, rfl, rfl⟩
        have hb2 := below_drewN w j2
        have HM2 := Lib.hid (H0.out.below hb2)
        have HF2 := Lib.hid (Fr.of_below (g := g) hb2 hB)
        have HX2 := Lib.hid (HMX.out.below hb2)
        have hB2 : B ≤ (w.drewN j2).heap.size := by have := hb2.size; omega
        clear hb2
        generalize w.drewN j2 = w2 at *
        unfold cutB
        have hcl := cut_fst_len s.data.toList [32, 61, 32]
        have hlen : s.data.toList.length = s.size := by simp
        rw [hlen] at hcl
        revert HZ hcl
        generalize Lib.cut s.data.toList [32, 61, 32] = cc
        obtain ⟨bf, af, fd⟩ := cc
        intro HZ hcl
        dsimp only at HZ hcl ⊢
        cases fd with
        | true =>
          have hx := HZ.out
          rw [if_pos (by trivial)] at hx
          have HW := Lib.hid hx
          clear hx HZ
          have hbz : (ba bf).size ≤ 600 := by rw [ba_size]; omega
          go_wp2_with fail
          refine (addVar_any B g m (ba bf) (ba af) w2 HM2.out hB2 (Nat.le_trans HSN.out.vars (by omega)) (by omega)).mono ?_
          rw [← HW.out]
          rintro e w3 ⟨rfl, hm3, hf3⟩
          have HM := Lib.hid hm3
          have HF := Lib.hid (HF2.out.trans hf3)
          clear hm3 hf3
          go_wp2
          go_ret
          exact ⟨rfl, HM.out, HF.out⟩
        | false =>
          have hx := HZ.out
          rw [if_neg (by simp)] at hx
          have HW := Lib.hid hx
          clear hx HZ
          go_wp2_with fail
          refine (addRule_any B g m s w2 HM2.out hB2 HG.out HX2.out HSN.out (by omega)).mono ?_
          rw [← HW.out]
          rintro e w3 ⟨rfl, hm3, hf3⟩
          have HM := Lib.hid hm3
          have HF := Lib.hid (HF2.out.trans hf3)
          clear hm3 hf3
          go_wp2
          go_ret
          exact ⟨rfl, HM.out, HF.out⟩
end Go.Proofs.YtlkpbpecgdphaaaGreatDoor
