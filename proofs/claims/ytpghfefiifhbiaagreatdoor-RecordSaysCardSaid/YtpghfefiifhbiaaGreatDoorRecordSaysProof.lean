/-
  PROVED: for every group, files, records and text that can be read, RecordSays returns true, and its arguments read afterwards as before. Conditions: those of the given row; the listed variables of Go's library, which the card ties to the program's text (the given tie; over a pruned copy of the project).
-/
import Derived.Test.YtpghfefiifhbiaaGreatDoorRecordSays
import Derived.Test.YtpghfefiifhbiaaGreatDoorOpenR
import Derived.Test.YtpghfefiifhbiaaGreatDoorTie
import Derived.Test.YtpghfefiifhbiaaGreatDoorCards
import Derived.OpenShut
import Derived.ShutString
import Derived.ChangeOld
import Derived.LaidMore
import Derived.Lay
import Derived.SevenTiedAt
import Derived.Stop.Joined
namespace Go.Proofs.YtpghfefiifhbiaaGreatDoor.RecordSays
open Go.ChangeShapes Go.WideShapes Go.ChangeAt Go.RowKit Go.Joins
open Go.ChangeMaps (open_string)

theorem own : ownKnob Tryz.prog.godebug = none := by kernel_rfl
theorem laidOut : laidOutB Tryz.prog = true := by kernel_rfl
theorem cellsS : Tryz.prog.cellsOf 9 = 1 := by kernel_rfl
theorem cellsF : Tryz.prog.cellsOf 44 = 2 := by kernel_rfl
theorem cellsL : Tryz.prog.cellsOf 22 = 1 := by kernel_rfl
theorem cellsLF : Tryz.prog.cellsOf 25 = 1 := by kernel_rfl
theorem cellsR : Tryz.prog.cellsOf 27 = 3 := by kernel_rfl
theorem cellsB : Tryz.prog.cellsOf 4 = 1 := by kernel_rfl
theorem cellsG : Tryz.prog.cellsOf 24 = 4 := by kernel_rfl
theorem cellsE : Tryz.prog.cellsOf 136 = 1 := by kernel_rfl
theorem cellsT : Tryz.prog.cellsOf 123 = 20 := by kernel_rfl
theorem cellsU : Tryz.prog.cellsOf 111 = 1 := by kernel_rfl
theorem tabEq : (Rows.laid_internal_strconv_uint64pow10 (H := Unit)) = Lib.tabData .u64 Lib.pow10Tab := by kernel_rfl
theorem starE : "*" ++ "errors.errorString" = "*errors.errorString" := by decide
theorem rowE (u : TypeId) (h : Tryz.prog.typeName? 3 u = some "*errors.errorString") : u = 134 :=
  typeName_ptr_named (nm := "errors.errorString") (by rw [starE]; kernel_rfl) (by kernel_rfl) (by decide) u (by rw [starE]; exact h)
theorem envOf {W : World} (h0 : laidMetH Tryz.prog Rows.recordSaysRow.laid W) : Env W := by
  rw [MakeChecks.laidMetH_plain _ _ _ (by kernel_rfl)] at h0
  have h2 := laidMet.tail (laidMet.tail (x := (_, _)) (r := (_, _) :: _) h0)
  have h4 := laidMet.tail (laidMet.tail (x := (_, _)) (r := (_, _) :: _) h2)
  have h5 := laidMet.tail (x := (_, _)) h4
  rw [tabEq] at h2
  have ht := Lib.tabIs_of_head tab_named (by kernel_rfl) Tryz.underlying123 Tryz.underlying111 cellsU cellsT h2
  obtain ⟨a1, s1, hv1, _⟩ := laid_sentinel h4 (g := 1) (by kernel_rfl) (by kernel_rfl) Tryz.underlying36 rowE Tryz.underlying134 Tryz.underlying136 rfl rfl Tryz.underlying9 cellsE cellsS
  obtain ⟨a2, s2, hv2, _⟩ := laid_sentinel h5 (g := 0) (by kernel_rfl) (by kernel_rfl) Tryz.underlying36 rowE Tryz.underlying134 Tryz.underlying136 rfl rfl Tryz.underlying9 cellsE cellsS
  exact ⟨ht, World.block_lt_of_cell? W ⟨3, 0, none⟩ (ht.cell tab_named 0 (by rw [Lib.pow10Tab_length]; omega)), errIn_of (by kernel_rfl) hv2, errIn_of (by kernel_rfl) hv1⟩

set_option maxRecDepth 100000 in
theorem lifted (os : Os) (started : os.Started) (H : Type) (enc : TypeId × Value → H) :
    ReturnsInHanded {} Tryz.checked os 3 .any (fun w args => (Rows.recordSaysSpec.pre enc Tryz.prog Tryz.f3 [] false w args ∧ laidMetH Tryz.prog Rows.recordSaysRow.laid w) ∧ sizedMet enc Tryz.prog Tryz.f3 (OpenSpec.ofChange Rows.recordSaysSpec) false w args)
      (Rows.recordSaysSpec.post enc Tryz.prog Tryz.f3 false true false false) := by
  refine handed_laid (C := Tryz.checked) (X := fun w _ => laidMetH Tryz.prog Rows.recordSaysRow.laid w) (fun _ _ _ hh h => h.of_heap hh) own started (by kernel_rfl) Tryz.func3
    (ChangeSpec.witness_shaped (enc := enc) (C := Tryz.checked) (os := os) (X := fun w _ => laidMetH Tryz.prog Rows.recordSaysRow.laid w) false (World.laidAll Tryz.prog os Rows.recordSaysRow.laid) #[.agg #[.slice none 0 0, .slice none 0 0, .slice none 0 0, .bool false], .slice none 0 0, .slice none 0 0, .agg #[.slice none 0 0, .slice none 0 0, .slice none 0 0], .agg #[.slice none 0 0, .slice none 0 0, .slice none 0 0], .string ByteArray.empty] 8 (World.laidAll_os _ _ _)
      (World.shaped_of_ZipB (by kernel_rfl) (by kernel_rfl)) (by kernel_rfl) (by kernel_rfl) (by kernel_rfl)
      (by rw [MakeChecks.laidMetH_plain _ _ _ (by kernel_rfl)]; exact laidMet_laidAll _ (by kernel_rfl) (by kernel_rfl))) ?_
  intro W base args ds gs before hval0 hW hsh hL
  have hval : ∀ (j : Nat) t v, Tryz.f3.params[j]? = some t → args[j]? = some v → Value.okWide Tryz.prog W .any base t v := hval0
  have hW' := hW
  obtain ⟨p, q, hA0, hV, rfl, hfz, hnd⟩ := hW
  have hA : DataW.TrodAll enc Tryz.prog W 0 (fun _ => true) true Tryz.f3.params.toList args.toList ds p := hA0
  rw [Tryz.params3] at hA hval
  obtain ⟨v0, vs0, d0, ds0, p0, q0, hargs, rfl, rfl, h0, r0⟩ := trodAll_cons hA
  obtain ⟨v1, vs1, d1, ds1, p1, q1, rfl, rfl, rfl, h1, r1⟩ := trodAll_cons r0
  obtain ⟨v2, vs2, d2, ds2, p2, q2, rfl, rfl, rfl, h2, r2⟩ := trodAll_cons r1
  obtain ⟨v3, vs3, d3, ds3, p3, q3, rfl, rfl, rfl, h3, r3⟩ := trodAll_cons r2
  obtain ⟨v4, vs4, d4, ds4, p4, q4, rfl, rfl, rfl, h4, r4⟩ := trodAll_cons r3
  obtain ⟨v5, vs5, d5, ds5, p5, q5, rfl, rfl, rfl, h5, r5⟩ := trodAll_cons r4
  obtain ⟨rfl, rfl, rfl⟩ := trodAll_nil r5
  obtain rfl : args = #[v0, v1, v2, v3, v4, v5] := by cases args; simp_all
  obtain ⟨rfl, rfl⟩ := trodVars_none hV
  obtain ⟨AL, nL, cL, rfl⟩ := okWide_slice Tryz.underlying25 (hval 1 25 v1 rfl rfl)
  obtain ⟨AO, nO, cO, rfl⟩ := okWide_slice Tryz.underlying25 (hval 2 25 v2 rfl rfl)
  have k0 := h0
  have k1 := h1
  have k2 := h2
  have k3 := h3
  have k4 := h4
  have k5 := h5
  have lt0 : ∀ x ∈ p0, x.block < W.heap.size := by obtain ⟨m, hm⟩ := k0; exact DataW.trod_lt m _ _ _ hm
  have lt1 : ∀ x ∈ p1, x.block < W.heap.size := by obtain ⟨m, hm⟩ := k1; exact DataW.trod_lt m _ _ _ hm
  have lt2 : ∀ x ∈ p2, x.block < W.heap.size := by obtain ⟨m, hm⟩ := k2; exact DataW.trod_lt m _ _ _ hm
  have lt3 : ∀ x ∈ p3, x.block < W.heap.size := by obtain ⟨m, hm⟩ := k3; exact DataW.trod_lt m _ _ _ hm
  have lt4 : ∀ x ∈ p4, x.block < W.heap.size := by obtain ⟨m, hm⟩ := k4; exact DataW.trod_lt m _ _ _ hm
  have lt5 : ∀ x ∈ p5, x.block < W.heap.size := by obtain ⟨m, hm⟩ := k5; exact DataW.trod_lt m _ _ _ hm
  obtain ⟨l, hl⟩ := open_files Tryz.underlying25 Tryz.underlying44 rfl rfl Tryz.underlying9 rfl rfl cellsS cellsF h1
  obtain ⟨out, ho⟩ := open_files Tryz.underlying25 Tryz.underlying44 rfl rfl Tryz.underlying9 rfl rfl cellsS cellsF h2
  obtain ⟨cs, rfl, hsz⟩ := okWide_struct Tryz.underlying24 (hval 0 24 v0 rfl rfl)
  obtain ⟨At, nt, ct, An, nn, cn, Ac, nc, cc, ph, hcs, tg, nd, cm, hl0, hl1, hl2⟩ : ∃ A0 n0 c0 A1 n1 c1 A2 n2 c2 b, cs.toList = [.slice A0 n0 c0, .slice A1 n1 c1, .slice A2 n2 c2, .bool b] ∧ ∃ l0 l1 l2 : List ByteArray, RdS W W.heap.size A0 n0 c0 l0 ∧ RdS W W.heap.size A1 n1 c1 l1 ∧ RdS W W.heap.size A2 n2 c2 l2 := by
    obtain ⟨fuel, hf⟩ := h0
    exact open_group Tryz.underlying24 rfl rfl rfl rfl Tryz.underlying22 Tryz.underlying9 Tryz.underlying4 rfl rfl rfl rfl cellsL cellsS cellsB cellsG (by simpa [Value.cells] using hf)
  obtain rfl : cs = #[.slice At nt ct, .slice An nn cn, .slice Ac nc cc, .bool ph] := by cases cs; simp_all
  obtain ⟨cs3, rfl, hsz3⟩ := okWide_struct Tryz.underlying27 (hval 3 27 v3 rfl rfl)
  obtain ⟨A0, n0, ac0, A1, n1, ac1, A2, n2, ac2, hcs3, x0, x1, x2, hx0, hx1, hx2⟩ : ∃ A0 n0 c0 A1 n1 c1 A2 n2 c2, cs3.toList = [.slice A0 n0 c0, .slice A1 n1 c1, .slice A2 n2 c2] ∧ ∃ (l0 : List ByteArray) (l1 l2 : List F), RdS W W.heap.size A0 n0 c0 l0 ∧ RdF W W.heap.size A1 n1 c1 l1 ∧ RdF W W.heap.size A2 n2 c2 l2 := by
    obtain ⟨fuel, hf⟩ := h3
    exact open_rec Tryz.underlying27 rfl rfl rfl Tryz.underlying22 Tryz.underlying9 Tryz.underlying25 Tryz.underlying44 rfl rfl Tryz.underlying9 rfl rfl rfl rfl rfl cellsL cellsLF cellsS cellsS cellsF cellsR (by simpa [Value.cells] using hf)
  obtain rfl : cs3 = #[.slice A0 n0 ac0, .slice A1 n1 ac1, .slice A2 n2 ac2] := by cases cs3; simp_all
  obtain ⟨cs4, rfl, hsz4⟩ := okWide_struct Tryz.underlying27 (hval 4 27 v4 rfl rfl)
  obtain ⟨B0, m0, bc0, B1, m1, bc1, B2, m2, bc2, hcs4, y0, y1, y2, hy0, hy1, hy2⟩ : ∃ A0 n0 c0 A1 n1 c1 A2 n2 c2, cs4.toList = [.slice A0 n0 c0, .slice A1 n1 c1, .slice A2 n2 c2] ∧ ∃ (l0 : List ByteArray) (l1 l2 : List F), RdS W W.heap.size A0 n0 c0 l0 ∧ RdF W W.heap.size A1 n1 c1 l1 ∧ RdF W W.heap.size A2 n2 c2 l2 := by
    obtain ⟨fuel, hf⟩ := h4
    exact open_rec Tryz.underlying27 rfl rfl rfl Tryz.underlying22 Tryz.underlying9 Tryz.underlying25 Tryz.underlying44 rfl rfl Tryz.underlying9 rfl rfl rfl rfl rfl cellsL cellsLF cellsS cellsS cellsF cellsR (by simpa [Value.cells] using hf)
  obtain rfl : cs4 = #[.slice B0 m0 bc0, .slice B1 m1 bc1, .slice B2 m2 bc2] := by cases cs4; simp_all
  obtain ⟨s, rfl⟩ : ∃ s : ByteArray, v5 = .string s := by
    obtain ⟨s, e, _⟩ := open_string Tryz.underlying9 (hval 5 9 v5 rfl rfl) h5
    exact ⟨s, e⟩
  clear hA0 hval0
  refine (recordSays_any ⟨At, An, Ac, AL, AO, A0, A1, A2, B0, B1, B2, nt, ct, nn, cn, nc, cc, nL, cL, nO, cO, n0, ac0, n1, ac1, n2, ac2, m0, bc0, m1, bc1, m2, bc2, ph, tg, nd, cm, l, out, (x0, x1, x2), (y0, y1, y2)⟩ s W ⟨hl0, hl1, hl2, hl, ho, hx0, hx1, hx2, hy0, hy1, hy2, envOf hL⟩).mono fun e W' ⟨he, bel⟩ => ?_
  subst he
  exact ⟨_, rfl, _, _, _, [], _, [], hW', trodAll_mk1 (shut_bool Tryz.underlying4 _), (trodAll_cons_mk (Below.trod laidOut (by kernel_rfl) (of_decide_eq_true (by kernel_rfl)) k0 bel lt0) (trodAll_cons_mk (Below.trod laidOut (by kernel_rfl) (of_decide_eq_true (by kernel_rfl)) k1 bel lt1) (trodAll_cons_mk (Below.trod laidOut (by kernel_rfl) (of_decide_eq_true (by kernel_rfl)) k2 bel lt2) (trodAll_cons_mk (Below.trod laidOut (by kernel_rfl) (of_decide_eq_true (by kernel_rfl)) k3 bel lt3) (trodAll_cons_mk (Below.trod laidOut (by kernel_rfl) (of_decide_eq_true (by kernel_rfl)) k4 bel lt4) (trodAll_cons_mk (Below.trod laidOut (by kernel_rfl) (of_decide_eq_true (by kernel_rfl)) k5 bel lt5) trodAll_mk0)))))), rfl, bel.frame _, fun h => by cases h⟩

theorem row : Rows.RecordSaysSaid :=
  OpenClaim.holds_of_wide 3 Tryz.f3 rfl rfl rfl rfl rfl rfl rfl ⟨rfl, rfl, rfl, rfl, rfl⟩ rfl rfl rfl rfl rfl (by kernel_rfl) Tryz.func3 (by kernel_rfl)
    (of_decide_eq_true (by kernel_rfl)) (by unfold Func.isWrapper; first | (rw [if_pos (by decide +kernel)]; kernel_rfl) | (rw [if_neg (by decide +kernel)]; exact ⟨rfl, rfl⟩))
    (fun os started H enc _ => lifted os started H enc)

theorem proved : Rows.RecordSaysCardSaid :=
  Claim7.holds_tied_plain_at .later [] Rows.recordSaysCard.laidKinds true Rows.recordSaysCard.stood.harness true
    row (fun _ h => by cases h) (by kernel_rfl) (fun _ h => by cases h) recordSays_row_tie rfl ⟨rfl, rfl⟩ (by kernel_rfl) rfl
    (fun f fn hf hfn => by
      obtain rfl : f = 3 := Option.some.inj ((show Tryz.prog.funcNamed Rows.recordSaysRow.func = some 3 by kernel_rfl).symm.trans hf) |>.symm
      obtain rfl : fn = Tryz.f3 := (Option.some.inj (Tryz.func3.symm.trans hfn)).symm
      exact ⟨by kernel_rfl, fun j t ht => by
        rw [Tryz.params3] at ht
        have hm : t ∈ [24, 25, 25, 27, 27, 9] := by simpa using Array.mem_of_getElem? ht
        have hall : ([24, 25, 25, 27, 27, 9].all fun u => !Tryz.prog.wantsStandIn u) = true := by kernel_rfl
        exact (show Tryz.prog.wantsStandIn t = false by simpa using List.all_eq_true.1 hall t hm)⟩)
    (by kernel_rfl)
#print axioms proved
end Go.Proofs.YtpghfefiifhbiaaGreatDoor.RecordSays
