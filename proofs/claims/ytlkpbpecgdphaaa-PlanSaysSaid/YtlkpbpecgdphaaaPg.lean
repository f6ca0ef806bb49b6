/-
  WALK: plan.Find.
-/
import Derived.Test.YtlkpbpecgdphaaaGf
import Derived.Test.YtlkpbpecgdphaaaWr
import Derived.Maps.OwnSet
import Derived.DeepKeys5
import Derived.Test.YtlkpbpecgdphaaaRcO
namespace Go.Proofs.Ytlkpbpecgdphaaa
open Go.RowKit

theorem txKeyed : Maps.Keyed Try.prog tStr := Maps.string_keyed Try.underlying9
theorem txKey (s : ByteArray) (hs : s.size ≤ maxLen) : keyOf Try.prog tStr (.string s) = some (.string s.data.toList) := WideMaps.keyOf_string_mk Try.underlying9 hs
/-- A value reads as itself. -/
def heldR (v : Value) : Option (DataW Value × List MemPlace) := some (.held v, [])
/-- What a list of pairs gives a text: the first pair's. -/
def lookK {α : Type} (M : List (ByteArray × α)) (s : ByteArray) : Option α := (M.find? fun x => decide (x.1 = s)).map (·.2)
theorem lookK_nil {α : Type} (s : ByteArray) : lookK (α := α) [] s = none := rfl
theorem lookK_cons {α : Type} (k s : ByteArray) (v : α) (M : List (ByteArray × α)) : lookK ((k, v) :: M) s = if k = s then some v else lookK M s := by
  unfold lookK
  rw [List.find?_cons]
  by_cases h : k = s <;> simp [h]
/-- The map at block bm has these values, the front ones first. -/
def MapV (w : World) (bm n : Nat) (M : List (ByteArray × Value)) : Prop := ∃ D : DataW Value, w.ownsMap Try.prog tStr heldR bm n D ∧
  ∀ s : ByteArray, s.size ≤ maxLen → (∀ z, D.atKey (.string s.data.toList) (.held z) = .held ((lookK M s).getD z)) ∧ Maps.has D (.string s.data.toList) = (lookK M s).isSome
section
variable {w w' : World} {bm n : Nat} {M : List (ByteArray × Value)}
theorem MapV.made (w : World) : MapV (w.alloc (.map #[] 0)) w.heap.size 0 [] := ⟨.map [], World.ownsMap_made _ _ _ _, fun _s _ => ⟨fun _ => rfl, rfl⟩⟩
theorem MapV.kept {row : Option Nat} (h : MapV w bm n M) (hg : w.grownBy w' row) (hne : some bm ≠ row) : MapV w' bm n M := by
  obtain ⟨D, ho, hh⟩ := h
  exact ⟨D, ho.kept hg hne, hh⟩
theorem MapV.lt (h : MapV w bm n M) : bm < w.heap.size := by obtain ⟨D, ho, _⟩ := h; exact ho.lt
theorem MapV.same (h : MapV w bm n M) (hb : w'.heap[bm]? = w.heap[bm]?) : MapV w' bm n M := by
  obtain ⟨D, ⟨es, c, hc, h2⟩, hh⟩ := h
  exact ⟨D, ⟨es, c, hb.trans hc, h2⟩, hh⟩
theorem MapV.below (h : MapV w bm n M) (hb : Below w.heap.size w w') : MapV w' bm n M := h.same (hb.block _ h.lt)
theorem MapV.block (h : MapV w bm n M) : ∃ es c, w.heap[bm]? = some (.map es c) := by
  obtain ⟨D, ⟨es, c, hb, _⟩, _⟩ := h
  exact ⟨es, c, hb⟩
theorem MapV.congr {M' : List (ByteArray × Value)} (h : MapV w bm n M) (he : ∀ s, lookK M s = lookK M' s) : MapV w bm n M' := by
  obtain ⟨D, ho, hh⟩ := h
  exact ⟨D, ho, fun s hs => by rw [← he]; exact hh s hs⟩
set_option maxRecDepth 100000 in
theorem MapV.store {e t : TypeId} (h : MapV w bm n M) (ht : Try.prog.underlying t = some (.map tStr e)) (s : ByteArray) (v : Value) (hs : s.size ≤ maxLen) (hn : n < maxLen) :
    ∃ w', (Instr.mapUpdate t (.map (some bm)) (.string s) v).run Try.prog w = .ok () w' ∧ MapV w' bm (n + 1) ((s, v) :: M) ∧ w.grownBy w' (some bm) := by
  obtain ⟨D, ho, hh⟩ := h
  obtain ⟨w', hrun, ho', hg⟩ := ho.store txKeyed ht hn (txKey s hs) (show heldR v = some (.held v, []) from rfl)
  refine ⟨w', hrun, ⟨_, ho', fun x hx => ?_⟩, hg.grown⟩
  rw [lookK_cons]
  by_cases e : s = x
  · subst e
    rw [if_pos rfl]
    exact ⟨fun z => Maps.atKey_put_same ho.isMap (txKeyed.key (txKey s hs)) _ _, Maps.has_put_same ho.isMap (txKeyed.key (txKey s hs)) _⟩
  · have hne : Lit.string x.data.toList ≠ Lit.string s.data.toList := fun h => e (by injection h with h; rw [← ba_of s, ← ba_of x, h])
    rw [if_neg e]
    exact ⟨fun z => by rw [Maps.atKey_put_other hne]; exact (hh x hx).1 z, by rw [Maps.has_put_other hne]; exact (hh x hx).2⟩
theorem MapV.look_ok {e t : TypeId} {z : Value} (h : MapV w bm n M) (ht : Try.prog.underlying t = some (.map tStr e)) (hz : (zeroValue e).run Try.prog w = .ok z w) (s : ByteArray) (hs : s.size ≤ maxLen) :
    (Instr.lookup t (.map (some bm)) (.string s) true).run Try.prog w = .ok (.tuple #[(lookK M s).getD z, .bool (lookK M s).isSome]) w := by
  obtain ⟨D, ho, hh⟩ := h
  obtain ⟨v, ps, hrun, hv⟩ := ho.look_ok txKeyed ht hz (show heldR z = some (.held z, []) from rfl) (txKey s hs)
  rw [(hh s hs).1 z] at hv
  unfold heldR at hv
  simp only [Option.some.injEq, Prod.mk.injEq, DataW.held.injEq] at hv
  rw [hrun, hv.1, (hh s hs).2]
theorem MapV.look {e t : TypeId} {z : Value} (h : MapV w bm n M) (ht : Try.prog.underlying t = some (.map tStr e)) (hz : (zeroValue e).run Try.prog w = .ok z w) (s : ByteArray) (hs : s.size ≤ maxLen) :
    (Instr.lookup t (.map (some bm)) (.string s) false).run Try.prog w = .ok ((lookK M s).getD z) w := by
  obtain ⟨D, ho, hh⟩ := h
  obtain ⟨v, ps, hrun, hv⟩ := ho.lookup txKeyed ht hz (show heldR z = some (.held z, []) from rfl) (txKey s hs)
  rw [(hh s hs).1 z] at hv
  unfold heldR at hv
  simp only [Option.some.injEq, Prod.mk.injEq, DataW.held.injEq] at hv
  rw [hrun, hv.1]
end
/-- A map that may be nil. -/
def MapN (w : World) (v : Value) (n : Nat) (M : List (ByteArray × Value)) : Prop := (v = .map none ∧ M = []) ∨ ∃ bm, v = .map (some bm) ∧ MapV w bm n M
section
variable {w w' : World} {n : Nat} {v : Value} {M : List (ByteArray × Value)}
theorem MapN.below (h : MapN w v n M) (hb : Below w.heap.size w w') : MapN w' v n M := by
  rcases h with h | ⟨bm, e, h⟩
  · exact .inl h
  · exact .inr ⟨bm, e, h.below hb⟩
theorem MapN.look_ok {e t : TypeId} {z : Value} (h : MapN w v n M) (ht : Try.prog.underlying t = some (.map tStr e)) (hz : (zeroValue e).run Try.prog w = .ok z w) (s : ByteArray) (hs : s.size ≤ maxLen) :
    (Instr.lookup t v (.string s) true).run Try.prog w = .ok (.tuple #[(lookK M s).getD z, .bool (lookK M s).isSome]) w := by
  rcases h with ⟨rfl, rfl⟩ | ⟨bm, rfl, h⟩
  · rw [Maps.look_nil true txKeyed ht hz (txKey s hs)]; rfl
  · exact h.look_ok ht hz s hs
theorem MapN.look {e t : TypeId} {z : Value} (h : MapN w v n M) (ht : Try.prog.underlying t = some (.map tStr e)) (hz : (zeroValue e).run Try.prog w = .ok z w) (s : ByteArray) (hs : s.size ≤ maxLen) :
    (Instr.lookup t v (.string s) false).run Try.prog w = .ok ((lookK M s).getD z) w := by
  rcases h with ⟨rfl, rfl⟩ | ⟨bm, rfl, h⟩
  · rw [Maps.look_nil false txKeyed ht hz (txKey s hs)]; rfl
  · exact h.look ht hz s hs
end
end Go.Proofs.Ytlkpbpecgdphaaa
namespace Go.Proofs.Ytlkpbpecgdphaaa
open Go.RowKit

theorem RcV.low {w w' : World} {v : Value} {r : Rcd} (h : RcV w v r) (hb : Below w.heap.size w w') : RcV w' v r := by
  obtain ⟨A0, n0, c0, A1, n1, c1, A2, n2, c2, e, h0, h1, h2⟩ := h
  exact ⟨A0, n0, c0, A1, n1, c1, A2, n2, c2, e, h0.belowS hb, h1.belowS hb, h2.belowS hb⟩
theorem same3 (r r' : Rcd) : (decide (r.1 = r'.1) && decide (r.2.1 = r'.2.1) && decide (r.2.2 = r'.2.2)) = decide (r = r') := by
  obtain ⟨a, b, c⟩ := r
  obtain ⟨a', b', c'⟩ := r'
  simp [Prod.ext_iff, Bool.and_assoc]
theorem rcSame_V {w : World} {v v' : Value} {r r' : Rcd} (h : RcV w v r) (h' : RcV w v' r') : Calls Try.prog 45 #[v, v'] w fun e w' => e = .returned (.bool (decide (r = r'))) ∧ Below w.heap.size w w' := by
  obtain ⟨A0, n0, c0, A1, n1, c1, A2, n2, c2, rfl, h0, h1, h2⟩ := h
  obtain ⟨B0, m0, d0, B1, m1, d1, B2, m2, d2, rfl, k0, k1, k2⟩ := h'
  rw [← same3]
  exact recSame_any _ _ _ _ _ _ _ _ _ _ _ _ _ _ _ _ _ _ _ _ _ _ _ _ w h0 h1 h2 k0 k1 k2
/-- Records by names. -/
abbrev Kp := List (ByteArray × Rcd)
/-- The map v has these records. -/
def KpM (w : World) (v : Value) (n : Nat) (K : Kp) : Prop := ∃ M, MapN w v n M ∧ ∀ s, (lookK K s = none ∧ lookK M s = none) ∨ ∃ u r, lookK M s = some u ∧ lookK K s = some r ∧ RcV w u r
theorem KpM.below {w w' : World} {v : Value} {n : Nat} {K : Kp} (h : KpM w v n K) (hb : Below w.heap.size w w') : KpM w' v n K := by
  obtain ⟨M, hm, hh⟩ := h
  refine ⟨M, hm.below hb, fun s => ?_⟩
  rcases hh s with h | ⟨u, r, h1, h2, h3⟩
  · exact .inl h
  · exact .inr ⟨u, r, h1, h2, h3.low hb⟩
def FewR (r : Rcd) : Prop := r.1.length ≤ 1000 ∧ r.2.1.length ≤ 1000 ∧ r.2.2.length ≤ 1000
def FewK (K : Kp) : Prop := ∀ s r, lookK K s = some r → FewR r
def recOfK (K : Kp) (tg : List ByteArray) : Option Rcd := match tg with
  | [] => none
  | t :: _ => lookK K t
def noR : Rcd := ([], [], [])
theorem zeroRec (w : World) : (zeroValue tRec).run Try.prog w = .ok (.agg zeroR) w := by kernel_rfl
theorem RcV.zero (w : World) : RcV w (.agg #[.slice none 0 0, .slice none 0 0, .slice none 0 0]) noR :=
  ⟨_, _, _, _, _, _, _, _, _, rfl, ⟨rfl, Nat.le_refl _, Nat.zero_le _, fun h => by omega⟩, ⟨rfl, Nat.le_refl _, Nat.zero_le _, fun h => by omega⟩, ⟨rfl, Nat.le_refl _, Nat.zero_le _, fun h => by omega⟩⟩
/-- The files of some names, sorted. -/
def outR (l : List F) (tg : List ByteArray) : List F := tg.foldl (fun o t => putF o (t, textF l t)) []
def nowR (l : List F) (g : Gp) : Rcd := (g.cm, ndR l g.nd, outR l g.tg)
def freshR (K : Kp) (l : List F) (g : Gp) : Bool := match recOfK K g.tg with
  | none => false
  | some r => g.tg.all (has l) && decide (nowR l g = r)
def ndStale (gs : List Gp) (st : List Bool) (nd : List ByteArray) : Bool := nd.any fun t => match makerO gs t with
  | some a => st.getD a false
  | none => false
def staleG (K : Kp) (l : List F) (gs : List Gp) (st : List Bool) (g : Gp) : Bool := (!g.ph && !freshR K l g) || ndStale gs st g.nd
def staleUpto (K : Kp) (l : List F) (gs : List Gp) : Nat → List Bool
  | 0 => []
  | k + 1 => staleUpto K l gs k ++ [match gs[k]? with
    | some g => staleG K l (gs.take k) (staleUpto K l gs k) g
    | none => false]
theorem staleUpto_len (K : Kp) (l : List F) (gs : List Gp) : ∀ k, (staleUpto K l gs k).length = k
  | 0 => rfl
  | k + 1 => by rw [staleUpto, List.length_append, staleUpto_len K l gs k]; rfl
def staleR (K : Kp) (l : List F) (gs : List Gp) : List Bool := staleUpto K l gs gs.length
end Go.Proofs.Ytlkpbpecgdphaaa
namespace Go.Proofs.Ytlkpbpecgdphaaa
open Go.RowKit

def FdPost (K : Kp) (tg : List ByteArray) (w : World) (e : Ending) (w' : World) : Prop := ∃ u, e = .returned (.tuple #[u, .bool (recOfK K tg).isSome]) ∧ RcV w' u ((recOfK K tg).getD noR) ∧ Below w.heap.size w w'
theorem below3 {B p : Nat} {w w' : World} (h : Below B w w') (hp : B ≤ p) (a b c : Value) : Below B w (((w'.setCell ⟨p, 0, none⟩ a).setCell ⟨p, 1, none⟩ b).setCell ⟨p, 2, none⟩ c) :=
  ((h.setCell (p := ⟨p, 0, none⟩) hp _).setCell (p := ⟨p, 1, none⟩) hp _).setCell (p := ⟨p, 2, none⟩) hp _
theorem cells3 {w : World} {b : Nat} {t : TypeId} {x y z : Value} (h : Blk w b t #[x, y, z]) : w.cell? ⟨b, 0, none⟩ = some x ∧ w.cell? ⟨b, 1, none⟩ = some y ∧ w.cell? ⟨b, 2, none⟩ = some z := ⟨h.cell 0, h.cell 1, h.cell 2⟩
theorem Blk.low {w w' : World} {b : Nat} {t : TypeId} {cs : Array Value} (h : Blk w b t cs) (hb : Below w.heap.size w w') : Blk w' b t cs := (hb.block _ h.lt).trans h
set_option maxRecDepth 100000 in
set_option maxHeartbeats 8000000 in
theorem planFind_any (vk : Value) (N : Nat) (K : Kp) (At An Ac : Option Addr) (nt ct nn cn nc cc : Nat) (ph : Bool) (tg : List ByteArray) (w : World) (h : KpM w vk N K) (hF : FewK K) (ht : RdS w w.heap.size At nt ct tg) (hsz : ∀ x ∈ tg, x.size ≤ maxLen) :
    Calls Try.prog 12 #[vk, .agg #[.slice At nt ct, .slice An nn cn, .slice Ac nc cc, .bool ph]] w (FdPost K tg w) := by
  have hba : Below w.heap.size w ((w.alloc (.cells #[.slice At nt ct, .slice An nn cn, .slice Ac nc cc, .bool ph] tGr)).alloc (.cells #[.slice none 0 0, .slice none 0 0, .slice none 0 0] tRec)) := ((Below.refl _ w).alloc (Nat.le_refl _) _).alloc (by simp) _
  have pg := (Blk.new w tGr #[.slice At nt ct, .slice An nn cn, .slice Ac nc cc, .bool ph]).alloc (.cells #[.slice none 0 0, .slice none 0 0, .slice none 0 0] tRec)
  have p0 := Blk.new (w.alloc (.cells #[.slice At nt ct, .slice An nn cn, .slice Ac nc cc, .bool ph] tGr)) tRec #[.slice none 0 0, .slice none 0 0, .slice none 0 0]
  have hs1 : (w.alloc (.cells #[.slice At nt ct, .slice An nn cn, .slice Ac nc cc, .bool ph] tGr)).heap.size = w.heap.size + 1 := by simp
  rw [hs1] at p0
  have hs2 : ((w.alloc (.cells #[.slice At nt ct, .slice An nn cn, .slice Ac nc cc, .bool ph] tGr)).alloc (.cells #[.slice none 0 0, .slice none 0 0, .slice none 0 0] tRec)).heap.size = w.heap.size + 2 := by simp
  have ht1 := RdS.belowS ht hba
  have hk1 := h.below hba
  have g0 := pg.cell 0
  have y0 : ((w.alloc (.cells #[.slice At nt ct, .slice An nn cn, .slice Ac nc cc, .bool ph] tGr)).alloc (.cells #[.slice none 0 0, .slice none 0 0, .slice none 0 0] tRec)).cell? ⟨w.heap.size + 1, 0, none⟩ = some (.slice none 0 0) := p0.cell 0
  have y1 : ((w.alloc (.cells #[.slice At nt ct, .slice An nn cn, .slice Ac nc cc, .bool ph] tGr)).alloc (.cells #[.slice none 0 0, .slice none 0 0, .slice none 0 0] tRec)).cell? ⟨w.heap.size + 1, 1, none⟩ = some (.slice none 0 0) := p0.cell 1
  have y2 : ((w.alloc (.cells #[.slice At nt ct, .slice An nn cn, .slice Ac nc cc, .bool ph] tGr)).alloc (.cells #[.slice none 0 0, .slice none 0 0, .slice none 0 0] tRec)).cell? ⟨w.heap.size + 1, 2, none⟩ = some (.slice none 0 0) := p0.cell 2
  have z0 := p0.free 0
  have z1 := p0.free 1
  have z2 := p0.free 2
  have HBA := Lib.hid hba
  have P0 := Lib.hid p0
  have HS2 := Lib.hid hs2
  have HFW := Lib.hid hF
  clear hba pg p0 h hs1 ht hs2 hF
  cases tg with
  | nil =>
    have hn0 : nt = 0 := by have := ht1.1; simpa using this.symm
    subst hn0
    clear ht1 hk1 hsz
    go_enter Try.func12, Try.ntmps12
    go_wp2_with fail
    generalize (w.alloc (.cells #[.slice At 0 ct, .slice An nn cn, .slice Ac nc cc, .bool ph] tGr)).alloc (.cells #[.slice none 0 0, .slice none 0 0, .slice none 0 0] tRec) = w1 at *
    go_wp2
    (try simp only [Exit.inBlock, Exit.then])
    refine bodyPost_ret (v := .tuple #[.agg #[.slice none 0 0, .slice none 0 0, .slice none 0 0], .bool false]) ?_ rfl ?_
    · rw [results_cell_tmp rfl]
      go_simp
    · exact ⟨_, rfl, RcV.zero _, HBA.out⟩
  | cons t rest =>
    have hn1 := ht1.1
    have hn1' : 0 < nt := by rw [← hn1]; simp
    have hnz : (0 : Int) < (nt : Int) := by omega
    have hne : ((nt : Int) == 0) = false := by rw [beq_eq_false_iff_ne]; omega
    have hts : t.size ≤ maxLen := hsz t (List.mem_cons_self ..)
    obtain ⟨b2, o2, rfl, hb2l, ct2⟩ := ht1.at_ (i := 0) (f := t) rfl
    rw [Nat.add_zero] at ct2
    obtain ⟨M, hM, hMK⟩ := hk1
    have hrun := hM.look_ok Try.underlying43 (zeroRec _) t hts
    have HFI := Lib.hid (show recOfK K (t :: rest) = lookK K t from rfl)
    rcases hMK t with ⟨hkn, hmn⟩ | ⟨u, r, hmu, hkr, hur⟩
    · rw [hmn] at hrun
      rw [show ((none : Option Value).getD (.agg zeroR)) = .agg #[.slice none 0 0, .slice none 0 0, .slice none 0 0] from rfl, show (none : Option Value).isSome = false from rfl] at hrun
      have HKN := Lib.hid hkn
      clear hM hMK hmn hkn ht1 hn1 hsz hts
      go_enter Try.func12, Try.ntmps12
      go_wp2_with fail
      generalize (w.alloc (.cells #[.slice (some ⟨b2, o2, none⟩) nt ct, .slice An nn cn, .slice Ac nc cc, .bool ph] tGr)).alloc (.cells #[.slice none 0 0, .slice none 0 0, .slice none 0 0] tRec) = w1 at *
      go_wp2
      (try simp only [Exit.inBlock, Exit.then])
      refine bodyPost_ret (v := .tuple #[.agg #[.slice none 0 0, .slice none 0 0, .slice none 0 0], .bool false]) ?_ rfl ?_
      · have x0 := (World.cell?_alloc_lt w1 (.cells #[.slice none 0 0, .slice none 0 0, .slice none 0 0] tRec) ⟨w.heap.size + 1, 0, none⟩ P0.out.lt).trans y0
        have x1 := (World.cell?_alloc_lt w1 (.cells #[.slice none 0 0, .slice none 0 0, .slice none 0 0] tRec) ⟨w.heap.size + 1, 1, none⟩ P0.out.lt).trans y1
        have x2 := (World.cell?_alloc_lt w1 (.cells #[.slice none 0 0, .slice none 0 0, .slice none 0 0] tRec) ⟨w.heap.size + 1, 2, none⟩ P0.out.lt).trans y2
        rw [results_cell_tmp rfl]
        go_simp
      · refine ⟨_, by rw [HFI.out, HKN.out]; rfl, by rw [HFI.out, HKN.out]; exact RcV.zero _, ?_⟩
        exact HBA.out.alloc HBA.out.size _
    · obtain ⟨A0, n0, c0, A1, n1, c1, A2, n2, c2, rfl, r0, r1, r2⟩ := hur
      rw [hmu] at hrun
      rw [show ((some (.agg #[.slice A0 n0 c0, .slice A1 n1 c1, .slice A2 n2 c2]) : Option Value).getD (.agg zeroR)) = .agg #[.slice A0 n0 c0, .slice A1 n1 c1, .slice A2 n2 c2] from rfl, show (some (.agg #[.slice A0 n0 c0, .slice A1 n1 c1, .slice A2 n2 c2]) : Option Value).isSome = true from rfl] at hrun
      have HKR := Lib.hid hkr
      have hfew := HFW.out t r hkr
      obtain ⟨l0, l1, l2⟩ := r
      have q0 : n0 ≤ 900000 := by have := r0.1; have := hfew.1; dsimp only at *; omega
      have q1 : n1 ≤ 900000 := by have := r1.1; have := hfew.2.1; dsimp only at *; omega
      have q2 : n2 ≤ 900000 := by have := r2.1; have := hfew.2.2; dsimp only at *; omega
      dsimp only at r0 r1 r2
      have R0 := Lib.hid r0
      have R1 := Lib.hid r1
      have R2 := Lib.hid r2
      clear hM hMK hmu hkr ht1 hn1 hsz hts hfew r0 r1 r2
      go_enter Try.func12, Try.ntmps12
      go_wp2_with fail
      generalize (w.alloc (.cells #[.slice (some ⟨b2, o2, none⟩) nt ct, .slice An nn cn, .slice Ac nc cc, .bool ph] tGr)).alloc (.cells #[.slice none 0 0, .slice none 0 0, .slice none 0 0] tRec) = w1 at *
      go_wp2_with fail
      have hbw2 : Below w1.heap.size w1 (w1.alloc (.cells #[.slice A0 n0 c0, .slice A1 n1 c1, .slice A2 n2 c2] tRec)) := (Below.refl _ _).alloc (Nat.le_refl _) _
      have pr := Blk.new w1 tRec #[.slice A0 n0 c0, .slice A1 n1 c1, .slice A2 n2 c2]
      rw [HS2.out, show w.heap.size + 2 = w.heap.size + 1 + 1 from rfl] at pr
      have hp2 := P0.out.alloc (.cells #[.slice A0 n0 c0, .slice A1 n1 c1, .slice A2 n2 c2] tRec)
      generalize w1.alloc (.cells #[.slice A0 n0 c0, .slice A1 n1 c1, .slice A2 n2 c2] tRec) = w2 at *
      have HR0 := Lib.hid (show RdS w2.drew w2.drew.heap.size A0 n0 c0 l0 from RdS.belowS R0.out hbw2.drew)
      have HR1 := Lib.hid (show RdF w2.drew w2.drew.heap.size A1 n1 c1 l1 from RdF.belowS R1.out hbw2.drew)
      have HR2 := Lib.hid (show RdF w2.drew w2.drew.heap.size A2 n2 c2 l2 from RdF.belowS R2.out hbw2.drew)
      have PR2 := Lib.hid pr
      have PP2 := Lib.hid hp2
      have k0 : w2.cell? ⟨w.heap.size + 1 + 1, 0, none⟩ = some (.slice A0 n0 c0) := pr.cell 0
      have k1 : w2.cell? ⟨w.heap.size + 1 + 1, 1, none⟩ = some (.slice A1 n1 c1) := pr.cell 1
      have k2 : w2.cell? ⟨w.heap.size + 1 + 1, 2, none⟩ = some (.slice A2 n2 c2) := pr.cell 2
      have d0 : w2.drew.cell? ⟨w.heap.size + 1 + 1, 0, none⟩ = some (.slice A0 n0 c0) := k0
      have d1 : w2.drew.cell? ⟨w.heap.size + 1 + 1, 1, none⟩ = some (.slice A1 n1 c1) := k1
      have d2 : w2.drew.cell? ⟨w.heap.size + 1 + 1, 2, none⟩ = some (.slice A2 n2 c2) := k2
      have HBD := Lib.hid (show Below w.heap.size w w2.drew from (HBA.out.trans (hbw2.mono HBA.out.size)).drew)
      clear pr hp2 hbw2 y0 y1 y2 z0 z1 z2 g0 hrun ct2 R0 R1 R2 hb2l
      go_region_held3 (fun w' => w'.cell? ⟨w.heap.size + 1 + 1, 0, none⟩ = some (.slice A0 n0 c0) ∧ w'.cell? ⟨w.heap.size + 1 + 1, 1, none⟩ = some (.slice A1 n1 c1) ∧ w'.cell? ⟨w.heap.size + 1 + 1, 2, none⟩ = some (.slice A2 n2 c2))
        (first | exact K9.out | exact K5.out | exact K4.out | exact K3.out | exact ⟨d0, d1, d2⟩ | exact ⟨k0, k1, k2⟩)
        (first
          | (have _g := K4; go_at_call 28; refine (cloneF_any A2 n2 c2 l2 _ HR24.out q2).mono ?_; rintro e w5 ⟨V2, rfl, ho2, hb5⟩; obtain ⟨AA2, cc2, rfl⟩ := own_shape ho2; have O2 := Lib.hid ho2; have O05 := Lib.hid (ownsRow_kept O04.out (fun g hg => hb5.block g (O04.out.lt g hg).2)); have O15 := Lib.hid (ownsRow_kept O1.out (fun g hg => hb5.block g (O1.out.lt g hg).2)); have PR5 := Lib.hid (Blk.low PR4.out hb5); have PP5 := Lib.hid (Blk.low PP4.out hb5); have HB5 := Lib.hid (HB4.out.trans (hb5.mono HB4.out.size)); have K5 := Lib.hid (cells3 PR5.out); have K9 := Lib.hid (cells3 (((PR5.out.other (k := w.heap.size + 1) (i := 0) (by omega) (.slice AA0 n0 cc0)).other (k := w.heap.size + 1) (i := 1) (by omega) (.slice AA1 n1 cc1)).other (k := w.heap.size + 1) (i := 2) (by omega) (.slice AA2 n2 cc2))); obtain ⟨y0, y1, y2⟩ := cells3 PP5.out; have z0 := PP5.out.free 0; have z1 := PP5.out.free 1; have z2 := PP5.out.free 2; clear ho2 hb5)
          | (have _g := K3; go_at_call 28; refine (cloneF_any A1 n1 c1 l1 _ HR13.out q1).mono ?_; rintro e w4 ⟨V1, rfl, ho1, hb4⟩; obtain ⟨AA1, cc1, rfl⟩ := own_shape ho1; have O1 := Lib.hid ho1; have O04 := Lib.hid (ownsRow_kept O0.out (fun g hg => hb4.block g (O0.out.lt g hg).2)); have PR4 := Lib.hid (Blk.low PR3.out hb4); have PP4 := Lib.hid (Blk.low PP3.out hb4); have HB4 := Lib.hid (HB3.out.trans (hb4.mono HB3.out.size)); have K4 := Lib.hid (cells3 PR4.out); have HR24 := Lib.hid (RdF.belowS HR23.out hb4); clear ho1 hb4)
          | (go_at_call 27; refine (cloneS_any A0 n0 c0 l0 _ HR0.out q0).mono ?_; rintro e w3 ⟨V0, rfl, ho0, hb3⟩; obtain ⟨AA0, cc0, rfl⟩ := own_shape ho0; have O0 := Lib.hid ho0; have PR3 := Lib.hid (Blk.low PR2.out.drew hb3); have PP3 := Lib.hid (Blk.low PP2.out.drew hb3); have HB3 := Lib.hid (HBD.out.trans (hb3.mono HBD.out.size)); have K3 := Lib.hid (cells3 PR3.out); have HR13 := Lib.hid (RdF.belowS HR1.out hb3); have HR23 := Lib.hid (RdF.belowS HR2.out hb3); clear ho0 hb3))
      have PF := Lib.hid (cells3 (((PP5.out.set 0 (.slice AA0 n0 cc0)).set 1 (.slice AA1 n1 cc1)).set 2 (.slice AA2 n2 cc2)))
      have e0 : (Value.slice AA0 n0 cc0).ownBlock ≠ some (w.heap.size + 1) := row_block_ne O05.out PP5.out (by decide)
      have e1 : (Value.slice AA1 n1 cc1).ownBlock ≠ some (w.heap.size + 1) := row_block_ne O15.out PP5.out (by decide)
      have e2 : (Value.slice AA2 n2 cc2).ownBlock ≠ some (w.heap.size + 1) := row_block_ne O2.out PP5.out (by decide)
      have HRV := Lib.hid (RcV.of_own (own_set (i := 2) (u := .slice AA2 n2 cc2) (own_set (i := 1) (u := .slice AA1 n1 cc1) (own_set (i := 0) (u := .slice AA0 n0 cc0) O05.out e0) e0) e0) (own_set (i := 2) (u := .slice AA2 n2 cc2) (own_set (i := 1) (u := .slice AA1 n1 cc1) (own_set (i := 0) (u := .slice AA0 n0 cc0) O15.out e1) e1) e1) (own_set (i := 2) (u := .slice AA2 n2 cc2) (own_set (i := 1) (u := .slice AA1 n1 cc1) (own_set (i := 0) (u := .slice AA0 n0 cc0) O2.out e2) e2) e2))
      have HBF := Lib.hid (below3 (p := w.heap.size + 1) HB5.out (by omega) (.slice AA0 n0 cc0) (.slice AA1 n1 cc1) (.slice AA2 n2 cc2))
      generalize ((w5.setCell ⟨w.heap.size + 1, 0, none⟩ (.slice AA0 n0 cc0)).setCell ⟨w.heap.size + 1, 1, none⟩ (.slice AA1 n1 cc1)).setCell ⟨w.heap.size + 1, 2, none⟩ (.slice AA2 n2 cc2) = w6 at *
      obtain ⟨x0, x1, x2⟩ := PF.out
      go_wp2
      (try simp only [Exit.inBlock, Exit.then])
      refine bodyPost_ret (v := .tuple #[.agg #[.slice AA0 n0 cc0, .slice AA1 n1 cc1, .slice AA2 n2 cc2], .bool true]) ?_ rfl ?_
      · rw [results_cell_tmp rfl]
        go_simp
      · exact ⟨_, by rw [HFI.out, HKR.out]; rfl, by rw [HFI.out, HKR.out]; exact HRV.out, HBF.out⟩
end Go.Proofs.Ytlkpbpecgdphaaa
