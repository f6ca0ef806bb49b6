/-
  PROVED: for every record, TopRecord returns true, and its argument reads afterwards as before. Conditions: those of the given row; the listed variables of Go's library, which the card ties to the program's text (the given tie; over a pruned copy of the project).
-/
import Derived.Test.YtpghfefiifhbiaaDoorTopRecord
import Derived.Test.YtpghfefiifhbiaaDoorOpenR
import Derived.Test.YtpghfefiifhbiaaDoorTie
import Derived.Test.YtpghfefiifhbiaaDoorCards
import Derived.OpenShut
import Derived.ShutString
import Derived.ChangeOld
import Derived.LaidMore
import Derived.Lay
import Derived.SevenTiedAt
import Derived.Stop.Joined
namespace Go.Proofs.YtpghfefiifhbiaaDoor.TopRecord
open Go.ChangeShapes Go.WideShapes Go.ChangeAt Go.RowKit Go.Joins

theorem own : ownKnob Tryd.prog.godebug = none := by kernel_rfl
theorem laidOut : laidOutB Tryd.prog = true := by kernel_rfl
theorem cellsS : Tryd.prog.cellsOf 9 = 1 := by kernel_rfl
theorem cellsF : Tryd.prog.cellsOf 32 = 2 := by kernel_rfl
theorem cellsL : Tryd.prog.cellsOf 22 = 1 := by kernel_rfl
theorem cellsLF : Tryd.prog.cellsOf 23 = 1 := by kernel_rfl
theorem cellsR : Tryd.prog.cellsOf 25 = 3 := by kernel_rfl
theorem cellsE : Tryd.prog.cellsOf 114 = 1 := by kernel_rfl
theorem cellsT : Tryd.prog.cellsOf 100 = 20 := by kernel_rfl
theorem cellsU : Tryd.prog.cellsOf 86 = 1 := by kernel_rfl
theorem tabEq : (Rows.laid_internal_strconv_uint64pow10 (H := Unit)) = Lib.tabData .u64 Lib.pow10Tab := by kernel_rfl
theorem starE : "*" ++ "errors.errorString" = "*errors.errorString" := by decide
theorem rowE (u : TypeId) (h : Tryd.prog.typeName? 3 u = some "*errors.errorString") : u = 112 :=
  typeName_ptr_named (nm := "errors.errorString") (by rw [starE]; kernel_rfl) (by kernel_rfl) (by decide) u (by rw [starE]; exact h)
theorem envOf {W : World} (h0 : laidMetH Tryd.prog Rows.topRecordRow.laid W) : Env W := by
  rw [MakeChecks.laidMetH_plain _ _ _ (by kernel_rfl)] at h0
  have h2 := laidMet.tail (laidMet.tail (x := (_, _)) (r := (_, _) :: _) h0)
  have h4 := laidMet.tail (laidMet.tail (x := (_, _)) (r := (_, _) :: _) h2)
  have h5 := laidMet.tail (x := (_, _)) h4
  rw [tabEq] at h2
  have ht := Lib.tabIs_of_head tab_named (by kernel_rfl) Tryd.underlying100 Tryd.underlying86 cellsU cellsT h2
  obtain ⟨a1, s1, hv1, _⟩ := laid_sentinel h4 (g := 1) (by kernel_rfl) (by kernel_rfl) Tryd.underlying29 rowE Tryd.underlying112 Tryd.underlying114 rfl rfl Tryd.underlying9 cellsE cellsS
  obtain ⟨a2, s2, hv2, _⟩ := laid_sentinel h5 (g := 0) (by kernel_rfl) (by kernel_rfl) Tryd.underlying29 rowE Tryd.underlying112 Tryd.underlying114 rfl rfl Tryd.underlying9 cellsE cellsS
  exact ⟨ht, World.block_lt_of_cell? W ⟨3, 0, none⟩ (ht.cell tab_named 0 (by rw [Lib.pow10Tab_length]; omega)), errIn_of (by kernel_rfl) hv2, errIn_of (by kernel_rfl) hv1⟩

set_option maxRecDepth 100000 in
theorem lifted (os : Os) (started : os.Started) (H : Type) (enc : TypeId × Value → H) :
    ReturnsInHanded {} Tryd.checked os 3 .any (fun w args => (Rows.topRecordSpec.pre enc Tryd.prog Tryd.f3 [] false w args ∧ laidMetH Tryd.prog Rows.topRecordRow.laid w) ∧ sizedMet enc Tryd.prog Tryd.f3 (OpenSpec.ofChange Rows.topRecordSpec) false w args)
      (Rows.topRecordSpec.post enc Tryd.prog Tryd.f3 false true false false) := by
  refine handed_laid (C := Tryd.checked) (X := fun w _ => laidMetH Tryd.prog Rows.topRecordRow.laid w) (fun _ _ _ hh h => h.of_heap hh) own started (by kernel_rfl) Tryd.func3
    (ChangeSpec.witness_shaped (enc := enc) (C := Tryd.checked) (os := os) (X := fun w _ => laidMetH Tryd.prog Rows.topRecordRow.laid w) false (World.laidAll Tryd.prog os Rows.topRecordRow.laid) #[.agg #[.slice none 0 0, .slice none 0 0, .slice none 0 0]] 8 (World.laidAll_os _ _ _)
      (World.shaped_of_ZipB (by kernel_rfl) (by kernel_rfl)) (by kernel_rfl) (by kernel_rfl) (by kernel_rfl)
      (by rw [MakeChecks.laidMetH_plain _ _ _ (by kernel_rfl)]; exact laidMet_laidAll _ (by kernel_rfl) (by kernel_rfl))) ?_
  intro W base args ds gs before hval0 hW hsh hL
  have hval : ∀ (j : Nat) t v, Tryd.f3.params[j]? = some t → args[j]? = some v → Value.okWide Tryd.prog W .any base t v := hval0
  have hW' := hW
  obtain ⟨p, q, hA0, hV, rfl, hfz, hnd⟩ := hW
  have hA : DataW.TrodAll enc Tryd.prog W 0 (fun _ => true) true Tryd.f3.params.toList args.toList ds p := hA0
  rw [Tryd.params3] at hA hval
  obtain ⟨v0, vs0, d0, ds0, p0, q0, hargs, rfl, rfl, h0, r0⟩ := trodAll_cons hA
  obtain ⟨rfl, rfl, rfl⟩ := trodAll_nil r0
  obtain rfl : args = #[v0] := by cases args; simp_all
  obtain ⟨rfl, rfl⟩ := trodVars_none hV
  have k0 := h0
  have lt0 : ∀ x ∈ p0, x.block < W.heap.size := by obtain ⟨m, hm⟩ := k0; exact DataW.trod_lt m _ _ _ hm
  obtain ⟨cs, rfl, hsz⟩ := okWide_struct Tryd.underlying25 (hval 0 25 v0 rfl rfl)
  obtain ⟨A0, n0, c0, A1, n1, c1, A2, n2, c2, hcs, l0, l1, l2, hl0, hl1, hl2⟩ : ∃ A0 n0 c0 A1 n1 c1 A2 n2 c2, cs.toList = [.slice A0 n0 c0, .slice A1 n1 c1, .slice A2 n2 c2] ∧ ∃ (l0 : List ByteArray) (l1 l2 : List F), RdS W W.heap.size A0 n0 c0 l0 ∧ RdF W W.heap.size A1 n1 c1 l1 ∧ RdF W W.heap.size A2 n2 c2 l2 := by
    obtain ⟨fuel, hf⟩ := h0
    exact open_rec Tryd.underlying25 rfl rfl rfl Tryd.underlying22 Tryd.underlying9 Tryd.underlying23 Tryd.underlying32 rfl rfl Tryd.underlying9 rfl rfl rfl rfl rfl cellsL cellsLF cellsS cellsS cellsF cellsR (by simpa [Value.cells] using hf)
  obtain rfl : cs = #[.slice A0 n0 c0, .slice A1 n1 c1, .slice A2 n2 c2] := by cases cs; simp_all
  clear hA0 hval0
  refine (topRecord_any A0 A1 A2 n0 n1 n2 c0 c1 c2 l0 l1 l2 W (envOf hL) hl0 hl1 hl2).mono fun e W' ⟨he, bel⟩ => ?_
  subst he
  exact ⟨_, rfl, _, _, _, [], _, [], hW', trodAll_mk1 (shut_bool Tryd.underlying4 _), (trodAll_cons_mk (Below.trod laidOut (by kernel_rfl) (of_decide_eq_true (by kernel_rfl)) k0 bel lt0) trodAll_mk0), rfl, bel.frame _, fun h => by cases h⟩

theorem row : Rows.TopRecordSaid :=
  OpenClaim.holds_of_wide 3 Tryd.f3 rfl rfl rfl rfl rfl rfl rfl ⟨rfl, rfl, rfl, rfl, rfl⟩ rfl rfl rfl rfl rfl (by kernel_rfl) Tryd.func3 (by kernel_rfl)
    (of_decide_eq_true (by kernel_rfl)) (by unfold Func.isWrapper; first | (rw [if_pos (by decide +kernel)]; kernel_rfl) | (rw [if_neg (by decide +kernel)]; exact ⟨rfl, rfl⟩))
    (fun os started H enc _ => lifted os started H enc)

theorem proved : Rows.TopRecordCardSaid :=
  Claim7.holds_tied_plain_at .later [] Rows.topRecordCard.laidKinds true Rows.topRecordCard.stood.harness true
    row (fun _ h => by cases h) (by kernel_rfl) (fun _ h => by cases h) topRecord_row_tie rfl ⟨rfl, rfl⟩ (by kernel_rfl) rfl
    (fun f fn hf hfn => by
      obtain rfl : f = 3 := Option.some.inj ((show Tryd.prog.funcNamed Rows.topRecordRow.func = some 3 by kernel_rfl).symm.trans hf) |>.symm
      obtain rfl : fn = Tryd.f3 := (Option.some.inj (Tryd.func3.symm.trans hfn)).symm
      exact ⟨by kernel_rfl, fun j t ht => by
        rw [Tryd.params3] at ht
        have hm : t ∈ [25] := by simpa using Array.mem_of_getElem? ht
        have hall : ([25].all fun u => !Tryd.prog.wantsStandIn u) = true := by kernel_rfl
        exact (show Tryd.prog.wantsStandIn t = false by simpa using List.all_eq_true.1 hall t hm)⟩)
    (by kernel_rfl)
#print axioms proved
end Go.Proofs.YtpghfefiifhbiaaDoor.TopRecord
