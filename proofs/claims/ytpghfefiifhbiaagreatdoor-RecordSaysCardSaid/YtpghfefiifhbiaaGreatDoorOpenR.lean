/-
  ARGUMENTS OPENED, under no condition of its own: a record by value is a slice of texts and two of files. THE WRAP of a row that lists variables, with the world's shape and what the variables hold handed to the contract; what the listed variables of the library hold.
-/
import Derived.Test.YtpghfefiifhbiaaGreatDoorOpenT
import Derived.Test.YtpghfefiifhbiaaGreatDoorRcB
import Derived.HandedShaped
import Derived.Handed
import Derived.ProofKit
import Derived.Lib.LaidTab
import Derived.Stop.LaidErr
import Derived.MakeChecks
namespace Go.Proofs.YtpghfefiifhbiaaGreatDoor
open Go.RowKit Go.ChangeShapes Go.WideShapes Go.Deep Go.Joins

section
variable {H : Type} {enc : TypeId × Value → H} {P : Program} {W : World}
theorem open_filesC {t e ts : TypeId} {f0 f1 : Field} {cs : List Value} {x : DataW H × List MemPlace} {fuel : Nat} (ht : P.underlying t = some (.slice e)) (he : P.underlying e = some (.struct #[f0, f1])) (h0 : f0.type = ts) (h1 : f1.type = ts) (hs : P.underlying ts = some .string)
    (o0 : f0.offset = 0) (o1 : f1.offset = 1) (hc : P.cellsOf ts = 1) (hC : P.cellsOf e = 2)
    (h : DataW.trod enc P W 0 (fun _ => true) true fuel t cs = some x) : ∃ A len cap, cs = [.slice A len cap] ∧ ∃ l : List F, RdF W W.heap.size A len cap l := by
  have hh := h
  rcases open_slice ht hh with ⟨hcs, _⟩ | ⟨a, len', cap', m, n, D, Pl, hcs, _⟩
  · exact ⟨none, 0, 0, by simpa [Value.cells] using hcs, [], RdF.nil _ _⟩
  · refine ⟨some a, len', cap', hcs, ?_⟩
    rw [hcs] at h
    exact open_files ht he h0 h1 hs o0 o1 hc hC ⟨fuel, by simpa [Value.cells] using h⟩
theorem open_rec {e tt te tf tg ts : TypeId} {f0 f1 f2 g0 g1 : Field} {n : Nat} {cs : List Value} {x : DataW H × List MemPlace} (he : P.underlying e = some (.struct #[f0, f1, f2])) (h0 : f0.type = tt) (h1 : f1.type = tf) (h2 : f2.type = tf)
    (ht : P.underlying tt = some (.slice te)) (hte : P.underlying te = some .string) (hf : P.underlying tf = some (.slice tg)) (hg : P.underlying tg = some (.struct #[g0, g1])) (k0 : g0.type = ts) (k1 : g1.type = ts) (hs : P.underlying ts = some .string)
    (o0 : f0.offset = 0) (o1 : f1.offset = 1) (o2 : f2.offset = 2) (u0 : g0.offset = 0) (u1 : g1.offset = 1) (ct : P.cellsOf tt = 1) (cf : P.cellsOf tf = 1) (cte : P.cellsOf te = 1) (cts : P.cellsOf ts = 1) (ctg : P.cellsOf tg = 2) (hC : P.cellsOf e = 3)
    (h : DataW.trod enc P W 0 (fun _ => true) true n e cs = some x) :
    ∃ A0 n0 c0 A1 n1 c1 A2 n2 c2, cs = [.slice A0 n0 c0, .slice A1 n1 c1, .slice A2 n2 c2] ∧ ∃ (l0 : List ByteArray) (l1 l2 : List F), RdS W W.heap.size A0 n0 c0 l0 ∧ RdF W W.heap.size A1 n1 c1 l1 ∧ RdF W W.heap.size A2 n2 c2 l2 := by
  obtain ⟨xs, m, _, _, hl, hlen, hfd⟩ := DataW.trod_struct he h
  match xs, hlen with
  | [y0, y1, y2], _ =>
    have q0 := hfd 0 f0 rfl
    have q1 := hfd 1 f1 rfl
    have q2 := hfd 2 f2 rfl
    rw [h0, o0, ct] at q0
    rw [h1, o1, cf] at q1
    rw [h2, o2, cf] at q2
    obtain ⟨A0, n0, c0, e0, l0, r0⟩ := open_textsC ht hte cte (show _ = some y0 from q0)
    obtain ⟨A1, n1, c1, e1, l1, r1⟩ := open_filesC hf hg k0 k1 hs u0 u1 cts ctg (show _ = some y1 from q1)
    obtain ⟨A2, n2, c2, e2, l2, r2⟩ := open_filesC hf hg k0 k1 hs u0 u1 cts ctg (show _ = some y2 from q2)
    rw [hC] at hl
    match cs, hl with
    | [u, v, z], _ =>
      simp at e0 e1 e2
      exact ⟨A0, n0, c0, A1, n1, c1, A2, n2, c2, by rw [e0, e1, e2], l0, l1, l2, r0, r1, r2⟩
end

theorem handed_laid {H : Type} {enc : TypeId × Value → H} {a : Assume} {C : Checked} {os : Os} {f : FuncId} {fn : Func} {s : ChangeSpec} {conds : List PathCond} {apart fresh handsOn again : Bool} {X : World → Array Value → Prop}
    (hX : ∀ (w w' : World) (args : Array Value), w.heap = w'.heap → X w args → X w' args)
    (own : ownKnob C.prog.godebug = none) (started : os.Started) (noInit : C.prog.inits.idxOf? f = none) (hfn : C.prog.funcs[f]? = some fn)
    (wit : ∃ (w : World) (tape : Tape) (i : Input), w.os = os ∧ (w.forCall tape i).Shaped C.prog ∧ i.vars = [] ∧ Input.okWide C.prog (w.forCall tape i) .any w.heap.size f i ∧
      ((s.pre enc C.prog fn conds apart (w.forCall tape i).memory i.args ∧ X (w.forCall tape i).memory i.args) ∧ sizedMet enc C.prog fn (OpenSpec.ofChange s) apart (w.forCall tape i).memory i.args) ∧ a.holds C.prog (lone (Frame.enter C.prog f i.args .normal) [] (w.forCall tape i)))
    (contract : ∀ (W : World) (base : Nat) (args : Array Value) (ds gs : List (DataW H)) (before : List MemPlace),
      (∀ (j : Nat) t v, fn.params[j]? = some t → args[j]? = some v → Value.okWide C.prog W .any base t v) →
      DataW.Whole enc C.prog fn.params.toList s.vars apart W args.toList ds gs before → W.ShapedOpen C.prog → X W args →
      Calls C.prog f args W fun e W' => ∃ v, e = .returned v ∧ s.post enc C.prog fn apart fresh handsOn again W args v W') :
    ReturnsInHanded a C os f .any (fun w args => (s.pre enc C.prog fn conds apart w args ∧ X w args) ∧ sizedMet enc C.prog fn (OpenSpec.ofChange s) apart w args) (s.post enc C.prog fn apart fresh handsOn again) := by
  refine returnsInHanded_of_calls own started noInit wit ?_
  intro w tape i _ hsh _ hok hpre _
  obtain ⟨_, _, _, fn', hfn', _, _, _, _, hval⟩ := hok
  have e : fn' = fn := Option.some.inj (hfn'.symm.trans hfn)
  subst e
  obtain ⟨⟨⟨ds, gs, before, hw, _⟩, hx⟩, _⟩ := hpre
  have hw' := DataW.Whole.of_heap (w' := w.forCall tape i) (by rfl) hw
  have hx' := hX _ (w.forCall tape i) i.args (by rfl) hx
  refine (contract (w.forCall tape i) w.heap.size i.args ds gs before hval hw' hsh hx').mono fun e W' ⟨v, he, hp⟩ => ?_
  subst he
  exact ChangeSpec.post_blind hp

/-- What the walk asks of the listed variables. -/
theorem errIn_of {P : Program} {W : World} {n : String} {g : Nat} {tp : TypeId} {a : Addr} (hg : P.globalNamed n = some g) (hv : W.var? P n = some #[.iface tp (.pointer (some a))]) : ErrIn W g :=
  ⟨_, by simpa using World.var?_cell hg hv 0, .inr ⟨_, _, rfl⟩⟩
end Go.Proofs.YtpghfefiifhbiaaGreatDoor
