/-
  WALK: package disk: a write is added to a sector.
-/
import Derived.Test.YtgkenknplepmeaaBuild
namespace Go.Proofs.Ytgkenknplepmeaa
open Go.RowKit

theorem step_load_mid {P : Program} {ops : Array Oper} {o : Oper} {a : Act} {w : World} {K : Act → World → Prop} {Q : Exit → Act → World → Prop} {E : Prop} (hgd : o.guard = none) (ty : TypeId) (x : Operand) (ho : o.op = .load ty x)
    (b off : Nat) (hx : a.eval x = .pointer (some ⟨b, off, none⟩)) (cs : List Value) (d : TypeDesc) (hc : w.rangeAt b off cs)
    (hu : P.underlying ty = some d) (hd : d.isRow = true) (hi : (P.info? ty).map (·.size) = some cs.length)
    (h : K (a.put o.dst (.agg cs.toArray)) w) : if Region.wanted o (yielded ops a.tmps) = true then Oper.wp P o a w K Q else E := by
  have hw : Region.wanted o (yielded ops a.tmps) = true := by simp [Region.wanted, hgd]
  rw [if_pos hw]
  exact wp_load_mid ty x ho b off hx cs d hc hu hd hi h
def updV (V : Nat → Value) (k : Nat) (v : Value) : Nat → Value := fun j => if j = k then v else V j
theorem seC_at (d : ByteArray) (v : Value) (h : d.size = 340) (j : Nat) (hj : j < 340) : (seC d v)[j]? = (Lib.strCells d)[j]? := by
  unfold seC; rw [List.getElem?_append_left (by rw [Lib.strCells_length]; omega)]
theorem seC_340 (d : ByteArray) (v : Value) (h : d.size = 340) : (seC d v)[340]? = some v := by
  unfold seC; rw [List.getElem?_append_right (by rw [Lib.strCells_length]; omega), Lib.strCells_length, h]; rfl
/-- The writes of one sector turn: another slice is laid at its place. -/
theorem DkAt.swap {w w' : World} {base p B k : Nat} {V : Nat → Value} {D : Dk} (h : DkAt w base p B V D) (hk : k < D.n) (v' : Value) (ws' : SW)
    (hb : ∀ g, base ≤ g → g < w.heap.size → (V k).ownBlock ≠ some g → w'.heap[g]? = w.heap[g]?)
    (ho : w'.ownsRow base tWt 341 v' ws'.length (wsC ws')) (hv : v'.ownBlock = (V k).ownBlock ∨ ∀ g, v'.ownBlock = some g → w.heap.size ≤ g)
    (hs : ∀ x ∈ ws', x.2.size = 340 ∧ x.1 < 64) :
    DkAt (w'.setCell ⟨B, k * 341 + 340, none⟩ v') base p B (updV V k v') { D with sec := updS D.sec k ⟨(D.sec k).dur, ws'⟩ } := by
  have hB' := hb B h.hB h.ltB (h.VB hk)
  have hp' := hb p h.hp h.ltp (h.Vp hk)
  have hset : ∀ g, g ≠ B → (w'.setCell ⟨B, k * 341 + 340, none⟩ v').heap[g]? = w'.heap[g]? := fun g hg => Below.heap_setCell _ _ _ _ hg
  obtain ⟨cs, hcs, hz⟩ := h.se
  have hcs' : Blk w' B tSe cs := hB'.trans hcs
  have hsame : ∀ o, o ≠ k * 341 + 340 → (w'.setCell ⟨B, k * 341 + 340, none⟩ v').cell? ⟨B, o, none⟩ = w.cell? ⟨B, o, none⟩ := fun o ho => by
    rw [World.cell?_setCell_other _ ⟨B, k * 341 + 340, none⟩ ⟨B, o, none⟩ _ (by intro e; injection e with _ e; exact ho e.symm)]
    exact World.cell?_of_block (w := w) (a := ⟨B, o, none⟩) hB'
  have hvB : v'.ownBlock ≠ some B := by
    rcases hv with e | e
    · rw [e]; exact h.VB hk
    · intro e2; have := e B e2; have := h.ltB; omega
  refine ⟨h.hp, h.hB, (hset p h.pB).trans (hp'.trans h.dk), ⟨_, hcs'.set _ v', by simp [hz]⟩, fun i hi => ?_, fun i hi => ?_, fun i j g hi hj h1 h2 => ?_, fun i hi => ?_, fun i hi => ?_, h.n1, h.n2, h.nx⟩
  · intro j x hx
    by_cases e : i = k
    · subst e
      simp only [updS, updV, if_true] at hx
      have hd := h.szd i hk
      by_cases e2 : j = 340
      · subst e2
        rw [seC_340 _ _ hd] at hx
        injection hx with hx
        rw [← hx]
        have hc : w'.cell? ⟨B, i * 341 + 340, none⟩ = some (V i) := by
          rw [World.cell?_of_block (w := w) (a := ⟨B, i * 341 + 340, none⟩) hB']
          exact h.row i hk 340 _ (seC_340 _ _ hd)
        exact World.cell?_setCell_same w' _ _ hc
      · have hj : j < 341 := by have := (List.getElem?_eq_some_iff.1 hx).1; rwa [seC_len _ hd] at this
        rw [hsame _ (by omega)]
        refine h.row i hk j x ?_
        rw [seC_at _ _ hd j (by omega)] at hx ⊢
        exact hx
    · simp only [updS, updV, if_neg e] at hx
      have hj : j < 341 := by have := (List.getElem?_eq_some_iff.1 hx).1; rwa [seC_len _ (h.szd i hi)] at this
      rw [hsame _ (by omega)]
      exact h.row i hi j x hx
  · by_cases e : i = k
    · subst e
      simp only [updS, updV, if_true]
      exact ownsRow_block ho (fun g hg => hset g (fun e => hvB (by rw [hg, e])))
    · simp only [updS, updV, if_neg e]
      refine ownsRow_block (h.own i hi) (fun g hg => ?_)
      have h1 := h.Vlt hi hg
      rw [hset g (fun e2 => h.VB hi (by rw [hg, e2]))]
      exact hb g h1.1 h1.2 (fun e2 => e (h.sep i k g hi hk hg e2))
  · have key : ∀ i j, i < D.n → j < D.n → i ≠ j → (updV V k v' i).ownBlock = some g → (updV V k v' j).ownBlock = some g → i = k → False := fun i' j' hi' hj' hne h1 h2 e => by
      subst e
      simp only [updV, if_true] at h1
      simp only [updV, if_neg (fun e : j' = i' => hne e.symm)] at h2
      rcases hv with e | e
      · rw [e] at h1
        exact hne (h.sep i' j' g hi' hj' h1 h2)
      · have := e g h1
        have := (h.Vlt hj' h2).2
        omega
    by_cases e : i = j
    · exact e
    · exfalso
      by_cases e1 : i = k
      · exact key i j hi hj e h1 h2 e1
      · by_cases e2 : j = k
        · exact key j i hj hi (fun e' => e e'.symm) h2 h1 e2
        · simp only [updV, if_neg e1] at h1
          simp only [updV, if_neg e2] at h2
          exact e (h.sep i j g hi hj h1 h2)
  · by_cases e : i = k
    · subst e; simp only [updS, if_true]; exact h.szd i hi
    · simp only [updS, if_neg e]; exact h.szd i hi
  · by_cases e : i = k
    · subst e; simp only [updS, if_true]; exact hs
    · simp only [updS, if_neg e]; exact h.szw i hi
theorem updS_same (f : Nat → Sec) (k : Nat) : updS f k ⟨(f k).dur, (f k).ws⟩ = f := by
  funext j; unfold updS; split
  · rename_i e; rw [e]
  · rfl
theorem wsC_snoc (l : SW) (x : Nat × ByteArray) : wsC (l ++ [x]) = wsC l ++ wrC x := by simp [wsC]
def wtZ : Value := .agg (wrC (0, ⟨Array.replicate 340 0⟩)).toArray
theorem wt_parts : ∃ i, Try.prog.info? tWt = some i ∧ i.zero = some wtZ ∧ i.size = 341 ∧ i.bytes = 352 := by
  have h : (Try.prog.info? tWt).map (fun i => (i.zero, i.size, i.bytes)) = some (some wtZ, 341, 352) := by kernel_rfl
  cases e : Try.prog.info? tWt with
  | none => rw [e] at h; cases h
  | some i =>
    rw [e] at h
    simp only [Option.map_some, Option.some.injEq, Prod.mk.injEq] at h
    exact ⟨i, rfl, h.1, h.2.1, h.2.2⟩

set_option maxRecDepth 100000 in
set_option maxHeartbeats 2000000 in
theorem add_any (base p B k nx : Nat) (V : Nat → Value) (D : Dk) (data : ByteArray) (w : World) (h : DkAt w base p B V D) (hk : k < D.n) (hnx : nx < 64) (hds : data.size = 340) (hn : ∀ x ∈ (D.sec k).ws, x.1 ≠ nx) (hl : (D.sec k).ws.length ≤ 100000) :
    Calls Try.prog 62 #[.pointer (some ⟨B, k * 341, none⟩), .agg (wrC (nx, data)).toArray] w fun e w' => e = .returned (.tuple #[]) ∧ (∃ V', DkAt w' base p B V' { D with sec := updS D.sec k ⟨(D.sec k).dur, (D.sec k).ws ++ [(nx, data)]⟩ }) ∧ Below base w w' ∧ Ty w w' := by
  obtain ⟨A, c, hV⟩ := own_shape (h.own k hk)
  have hBlt := h.ltB
  have hbw : base ≤ w.heap.size := Nat.le_trans h.hB (Nat.le_of_lt hBlt)
  obtain ⟨m, hm⟩ : ∃ m, (D.sec k).ws.length = m := ⟨_, rfl⟩
  have HGX := Lib.hid (show ∀ g, (Value.slice A m c).ownBlock = some g → g < w.heap.size from fun g hg => (h.Vlt hk (by rw [hV, hm]; exact hg)).2)
  have hb1 : Below w.heap.size w (w.alloc (.cells (wrC (nx, data)).toArray tWt)) := (Below.refl _ _).alloc (Nat.le_refl _) _
  have h1 : DkAt (w.alloc (.cells (wrC (nx, data)).toArray tWt)) base p B V D := h.keep (fun g _ hg => hb1.block g hg)
  have c1 : (w.alloc (.cells (wrC (nx, data)).toArray tWt)).cell? ⟨B, k * 341 + 340, none⟩ = some (.slice A m c) := by
    have := h1.row k hk 340 _ (seC_340 _ _ (h1.szd k hk)); rw [this, hV, hm]
  have hx1 : (w.alloc (.cells (wrC (nx, data)).toArray tWt)).cell? ⟨w.heap.size, 0, none⟩ = some (.int .i64 nx) := by rw [(Blk.new w tWt _).cell]; rfl
  have hX1 : Blk (w.alloc (.cells (wrC (nx, data)).toArray tWt)) w.heap.size tWt (wrC (nx, data)).toArray := Blk.new _ _ _
  have ho1 := h1.own k hk
  rw [hV, hm] at ho1
  have hsz1 : (w.alloc (.cells (wrC (nx, data)).toArray tWt)).heap.size = w.heap.size + 1 := by simp
  have HDel := Lib.hid (deleteF_none base w.heap.size nx m c A (D.sec k).ws _ ho1 hm (fun x hx => (h.szw k hk x hx).1) hx1 (by omega) hn (by omega))
  have HD1 := Lib.hid h1
  have HX1 := Lib.hid hX1
  have HV := Lib.hid hV
  have HM := Lib.hid hm
  have HSW := Lib.hid (h.szw k hk)
  have HZ1 := Lib.hid hsz1
  have HB1 := Lib.hid hb1
  have HY1 := Lib.hid (Ty.of_below hb1)
  have hlen := wrC_len (x := (nx, data)) hds
  have hin : (Try.prog.info? tWt).map (·.size) = some (wrC (nx, data)).length := by rw [hlen]; exact wt_info
  have HI := Lib.hid hin
  have HLn := Lib.hid hlen
  have HOne := Lib.hid (wrC_one (nx, data))
  have HNX := Lib.hid hnx
  have HDS := Lib.hid hds
  have hm5 : m ≤ 100000 := by omega
  clear h hb1 h1 hx1 hX1 ho1 hsz1 hn hV hm hl hlen hin hnx hds
  generalize hwc : wrC (nx, data) = wc at *
  have HWC := Lib.hid hwc
  clear hwc
  go_enter Try.func62, Try.ntmps62
  go_wp2_with fail
  generalize w.alloc (.cells wc.toArray tWt) = w1 at *
  refine HDel.out.mono ?_
  rintro e w2 ⟨rfl, hb2⟩
  have h2 : DkAt w2 base p B V D := HD1.out.keep (fun g _ hg => hb2.block g hg)
  have h2s := hb2.size
  have hcs := h2.se
  obtain ⟨cs, hbk, hcz⟩ := hcs
  have c2 : w2.cell? ⟨B, k * 341 + 340, none⟩ = some (.slice A m c) := by
    have := h2.row k hk 340 _ (seC_340 _ _ (h2.szd k hk)); rw [this, HV.out, HM.out]
  have f2 := hbk.free (k * 341 + 340)
  have ho2 := h2.own k hk
  have h3 := h2.swap hk (.slice A m c) (D.sec k).ws (fun g _ _ _ => rfl) (by rw [HV.out, HM.out] at ho2; rw [HM.out]; exact ho2) (.inl (by rw [HV.out]; cases A <;> rfl)) HSW.out
  rw [show ({ D with sec := updS D.sec k ⟨(D.sec k).dur, (D.sec k).ws⟩ } : Dk) = D by rw [updS_same]] at h3
  have hX3 : Blk (w2.setCell ⟨B, k * 341 + 340, none⟩ (.slice A m c)) w.heap.size tWt wc.toArray := by
    refine Blk.other ?_ (by omega) _
    exact (hb2.block w.heap.size (by rw [HZ1.out]; omega)).trans HX1.out
  have hb3 : Below base w (w2.setCell ⟨B, k * 341 + 340, none⟩ (.slice A m c)) := ((HB1.out.mono hbw).trans (hb2.mono (by rw [HZ1.out]; omega))).setCell (by simpa using h2.hB) _
  have hs3 : w.heap.size + 1 ≤ (w2.setCell ⟨B, k * 341 + 340, none⟩ (.slice A m c)).heap.size := by simp [World.setCell]; rw [← HZ1.out]; exact h2s
  have HY3 := Lib.hid ((HY1.out.trans (Ty.of_below hb2)).trans (Ty.setB (i := k * 341 + 340) hbk (.slice A m c)))
  have HC2 := Lib.hid h3
  have HX3 := Lib.hid hX3
  have HB3 := Lib.hid hb3
  have HS3 := Lib.hid hs3
  clear h2 hbk hcz ho2 h3 hX3 hb3 hs3 hb2 c1
  go_wp2_with fail
  generalize w2.setCell ⟨B, k * 341 + 340, none⟩ (.slice A m c) = w3 at *
  clear c2 f2 HDel HX1 HD1 HZ1 HB1 h2s
  obtain ⟨i, hi, hz, hsz, hby⟩ := wt_parts
  have HTI := Lib.hid hi
  have HTZ := Lib.hid hz
  have HTS := Lib.hid hsz
  have HTB := Lib.hid hby
  clear hi hz hsz hby
  have c3 : w3.cell? ⟨B, k * 341 + 340, none⟩ = some (.slice A m c) := by
    have := HC2.out.row k hk 340 _ (seC_340 _ _ (HC2.out.szd k hk)); rw [this]; simp [updV]
  have hrX : w3.rangeAt w.heap.size 0 wc := fun j v hv => by
    rw [Nat.zero_add, HX3.out.cell j, List.getElem?_toArray]; exact hv
  have hrd : RdX (w3.alloc (.cells wc.toArray tWt)).drew 341 (some ⟨w3.heap.size, 0, none⟩) 1 wc := RdX.new w3 341 wc.toArray tWt (by rw [List.size_toArray]; exact HLn.out) (by intro u hu; exact HOne.out u (by simpa using hu))
  have hown : (w3.alloc (.cells wc.toArray tWt)).drew.ownsRow base tWt 341 (.slice A m c) m (wsC (D.sec k).ws) := by
    have := HC2.out.own k hk
    rw [HM.out] at this
    simp only [updV, if_true] at this
    exact ⟨this.1, by have h5 := (this.alloc (.cells wc.toArray tWt)).2; exact h5⟩
  have hbs : base ≤ (w3.alloc (.cells wc.toArray tWt)).drew.heap.size := by have := HS3.out; show base ≤ (w3.alloc _).heap.size; simp; omega
  have hB3 : B < w3.heap.size := HC2.out.ltB
  have hfin : ∀ v5 w5, w5.ownsRow base tWt 341 v5 (m + 1) (wsC (D.sec k).ws ++ wc) → (w3.alloc (.cells wc.toArray tWt)).drew.grownBy w5 (Value.slice A m c).ownBlock → (v5.ownBlock = (Value.slice A m c).ownBlock ∨ v5.ownBlock = some (w3.alloc (.cells wc.toArray tWt)).drew.heap.size) →
      w5.cell? ⟨B, k * 341 + 340, none⟩ = some (.slice A m c) ∧ w5.frozen? ⟨B, k * 341 + 340, none⟩ = false ∧ (∃ V', DkAt (w5.setCell ⟨B, k * 341 + 340, none⟩ v5) base p B V' { D with sec := updS D.sec k ⟨(D.sec k).dur, (D.sec k).ws ++ [(nx, data)]⟩ }) ∧ Below base w (w5.setCell ⟨B, k * 341 + 340, none⟩ v5) ∧ w5.rangeAt w.heap.size 0 wc ∧ (w5.setCell ⟨B, k * 341 + 340, none⟩ v5).rangeAt w.heap.size 0 wc ∧ Ty w (w5.setCell ⟨B, k * 341 + 340, none⟩ v5) := by
    intro v5 w5 o5 g5 l5
    have hV3 : updV V k (.slice A m c) k = .slice A m c := by simp [updV]
    have hne : ∀ g, (Value.slice A m c).ownBlock = some g → g ≠ B := fun g hg e => HC2.out.VB hk (by rw [hV3, hg, e])
    have hkeep : ∀ g, g < w3.heap.size → (Value.slice A m c).ownBlock ≠ some g → w5.heap[g]? = w3.heap[g]? := fun g hg hn => (g5.block g (by show g < (w3.alloc _).heap.size; simp; omega) (fun e => hn e.symm)).trans (Below.heap_alloc _ _ _ hg)
    have hBk := hkeep B hB3 (fun e => hne B e rfl)
    obtain ⟨cs, hbk, _⟩ := HC2.out.se
    have hbk5 : Blk w5 B tSe cs := hBk.trans hbk
    have hXk := hkeep w.heap.size (by have := HS3.out; omega) (fun e => by have := HGX.out _ e; omega)
    have hr5 : w5.rangeAt w.heap.size 0 wc := rangeAt_block hrX hXk
    refine ⟨(World.cell?_of_block (w := w3) (a := ⟨B, k * 341 + 340, none⟩) hBk).trans c3, hbk5.free _, ⟨_, HC2.out.swap hk v5 ((D.sec k).ws ++ [(nx, data)]) (fun g _ hg hn => hkeep g hg (by rw [hV3] at hn; exact hn)) ?_ ?_ ?_⟩, ?_, hr5, rangeAt_block hr5 (Below.heap_setCell _ _ _ _ (by show w.heap.size ≠ B; omega)), ((HY3.out.trans (Ty.alloc w3 (.cells wc.toArray tWt)).drew).trans (Ty.grown hown g5)).trans (Ty.setB hbk5 v5)⟩
    · rw [List.length_append, HM.out, wsC_snoc, HWC.out]; exact o5
    · rw [hV3]
      rcases l5 with e | e
      · exact .inl e
      · refine .inr (fun g hg => ?_)
        rw [e] at hg
        injection hg with hg
        rw [← hg]
        show w3.heap.size ≤ (w3.alloc _).heap.size
        simp
    · intro x hx
      rcases List.mem_append.1 hx with h | h
      · exact HSW.out x h
      · rw [List.mem_singleton] at h
        subst h
        exact ⟨HDS.out, HNX.out⟩
    · refine ((HB3.out.trans ?_).grown g5 hbs (fun g' hg' => (hown.lt g' hg').1)).setCell (by simpa using HC2.out.hB) _
      exact ((Below.refl base w3).alloc (by have := HS3.out; omega) _).drew
  have HFin := Lib.hid hfin
  have HRX := Lib.hid hrX
  have HRD := Lib.hid hrd
  have HOW := Lib.hid hown
  clear hfin hrX hrd hown HX3 HC2 HB3
  have hr0 : w3.drew.rangeAt w.heap.size 0 wc := HRX.out
  have hra : (w3.alloc (.cells wc.toArray tWt)).drew.rangeAt w.heap.size 0 wc := World.rangeAt_alloc HRX.out _
  refine wp_region_held_drew (S := fun w' => w'.rangeAt w.heap.size 0 wc) (by kernel_rfl) hr0 (fun _ => ?_)
  refine wpAnyH_take (i := 0) (v := .pointer (some ⟨B, k * 341, none⟩)) rfl (by kernel_rfl) (by kernel_rfl) (by kernel_rfl) (fun _ _ _ h => h) (Or.inl ⟨by rfl, fun w' hSw => by go_simp⟩) hr0 ?_
  try simp only [Act.put, List.setIfInBounds_toArray, List.set_cons_zero, List.set_cons_succ]
  refine wpAnyH_take (i := 1) (v := .pointer (some ⟨B, k * 341, none⟩)) rfl (by kernel_rfl) (by kernel_rfl) (by kernel_rfl) (fun _ _ _ h => h) (Or.inl ⟨by rfl, fun w' hSw => by go_simp⟩) hr0 ?_
  try simp only [Act.put, List.setIfInBounds_toArray, List.set_cons_zero, List.set_cons_succ]
  refine wpAnyH_take (i := 2) (v := .pointer (some ⟨B, k * 341, none⟩)) rfl (by kernel_rfl) (by kernel_rfl) (by kernel_rfl) (fun _ _ _ h => h) (Or.inl ⟨by rfl, fun w' hSw => by go_simp⟩) hr0 ?_
  try simp only [Act.put, List.setIfInBounds_toArray, List.set_cons_zero, List.set_cons_succ]
  refine wpAnyH_take (i := 3) (v := .pointer (some ⟨B, k * 341 + 340, none⟩)) rfl (by kernel_rfl) (by kernel_rfl) (by kernel_rfl) (fun _ _ _ h => h) (Or.inl ⟨by rfl, fun w' hSw => by go_simp⟩) hr0 ?_
  try simp only [Act.put, List.setIfInBounds_toArray, List.set_cons_zero, List.set_cons_succ]
  refine wpAnyH_take (i := 5) (v := .agg wc.toArray) rfl (by kernel_rfl) (by kernel_rfl) (by kernel_rfl) (fun _ _ _ h => h) (yieldsIf_load_mid (by rfl) tWt (.tmp 3) rfl w.heap.size 0 rfl wc _ (fun w' hSw => hSw) Try.underlying106 rfl HI.out) hr0 ?_
  try simp only [Act.put, List.setIfInBounds_toArray, List.set_cons_zero, List.set_cons_succ]
  refine wpAnyH_ready (rs := [4, 6]) (by kernel_rfl) (by simp) ?_
  refine AllReadyH.cons rfl (fun K hK => ?_) ?_
  · go_simp
    refine hK.out _ _ hr0 (fun _ => ?_)
    clear hK K
    try simp only [Act.put, List.setIfInBounds_toArray, List.set_cons_zero, List.set_cons_succ]
    refine wpAnyH_ready (rs := [6]) (by kernel_rfl) (by simp) ?_
    refine AllReadyH.cons rfl (fun K hK => ?_) AllReadyH.nil
    refine step_buildSlice_one _ (by rfl) (.tmp 18) 108 tWt (by rfl) i wtZ wc.toArray Try.underlying108 HTI.out HTZ.out (by rw [List.size_toArray, HLn.out]; exact HTS.out) (by rw [List.size_toArray, HLn.out]; omega) (by rw [List.size_toArray, HLn.out]; omega) (by rfl) ?_
    refine hK.out _ _ hra (fun _ => ?_)
    clear hK K
    try simp only [Act.put, List.setIfInBounds_toArray, List.set_cons_zero, List.set_cons_succ]
    refine wpAnyH_ready (rs := [7]) (by kernel_rfl) (by simp) ?_
    refine AllReadyH.cons rfl (fun K hK => ?_) AllReadyH.nil
    refine step_append_rd _ (by rfl) (.tmp 17) (.tmp 19) _ (by rfl) base tWt i _ 341 352 Try.underlying108 HTI.out HTZ.out HTS.out HTB.out rfl (by decide) _ m _ (by rfl) HOW.out (some ⟨w3.heap.size, 0, none⟩) 1 1 wc (by rfl) HRD.out (by unfold maxLen; omega) (by omega) hbs ?_
    intro v5 w5 own5 g5 loc5
    obtain ⟨c5, f5, hd5, hb5, hrg5, hrS, hy5⟩ := HFin.out v5 w5 own5 g5 loc5
    obtain ⟨A5, cc5, rfl⟩ := own_shape own5
    have HD5 := Lib.hid hd5
    have HB5 := Lib.hid hb5
    have HY5 := Lib.hid hy5
    clear own5 g5 loc5 hd5 hb5 hy5
    refine hK.out _ _ hrg5 (fun _ => ?_)
    clear hK K
    try simp only [Act.put, List.setIfInBounds_toArray, List.set_cons_zero, List.set_cons_succ]
    refine wpAnyH_take (i := 8) (v := .pointer (some ⟨B, k * 341, none⟩)) rfl (by kernel_rfl) (by kernel_rfl) (by kernel_rfl) (fun _ _ _ h => h) (Or.inl ⟨by rfl, fun w' hSw => by go_simp⟩) hrg5 ?_
    try simp only [Act.put, List.setIfInBounds_toArray, List.set_cons_zero, List.set_cons_succ]
    refine wpAnyH_take (i := 9) (v := .pointer (some ⟨B, k * 341 + 340, none⟩)) rfl (by kernel_rfl) (by kernel_rfl) (by kernel_rfl) (fun _ _ _ h => h) (Or.inl ⟨by rfl, fun w' hSw => by go_simp⟩) hrg5 ?_
    try simp only [Act.put, List.setIfInBounds_toArray, List.set_cons_zero, List.set_cons_succ]
    refine wpAnyH_ready (rs := [10]) (by kernel_rfl) (by simp) ?_
    refine AllReadyH.cons rfl (fun K hK => ?_) AllReadyH.nil
    go_simp
    refine hK.out _ _ hrS (fun _ => ?_)
    clear hK K
    refine wpAnyH_done (by kernel_rfl) ?_ _
    go_wp2
    go_end0
    exact ⟨rfl, HD5.out, HB5.out, HY5.out⟩
  · refine AllReadyH.cons rfl (fun K hK => ?_) AllReadyH.nil
    refine step_buildSlice_one _ (by rfl) (.tmp 18) 108 tWt (by rfl) i wtZ wc.toArray Try.underlying108 HTI.out HTZ.out (by rw [List.size_toArray, HLn.out]; exact HTS.out) (by rw [List.size_toArray, HLn.out]; omega) (by rw [List.size_toArray, HLn.out]; omega) (by rfl) ?_
    refine hK.out _ _ hra (fun _ => ?_)
    clear hK K
    try simp only [Act.put, List.setIfInBounds_toArray, List.set_cons_zero, List.set_cons_succ]
    refine wpAnyH_ready (rs := [4]) (by kernel_rfl) (by simp) ?_
    refine AllReadyH.cons rfl (fun K hK => ?_) AllReadyH.nil
    have c4 : (w3.alloc (.cells wc.toArray tWt)).cell? ⟨B, k * 341 + 340, none⟩ = some (.slice A m c) := by rw [World.cell?_alloc_lt _ _ _ hB3]; exact c3
    go_simp
    refine hK.out _ _ hra (fun _ => ?_)
    clear hK K
    try simp only [Act.put, List.setIfInBounds_toArray, List.set_cons_zero, List.set_cons_succ]
    refine wpAnyH_ready (rs := [7]) (by kernel_rfl) (by simp) ?_
    refine AllReadyH.cons rfl (fun K hK => ?_) AllReadyH.nil
    refine step_append_rd _ (by rfl) (.tmp 17) (.tmp 19) _ (by rfl) base tWt i _ 341 352 Try.underlying108 HTI.out HTZ.out HTS.out HTB.out rfl (by decide) _ m _ (by rfl) HOW.out (some ⟨w3.heap.size, 0, none⟩) 1 1 wc (by rfl) HRD.out (by unfold maxLen; omega) (by omega) hbs ?_
    intro v5 w5 own5 g5 loc5
    obtain ⟨c5, f5, hd5, hb5, hrg5, hrS, hy5⟩ := HFin.out v5 w5 own5 g5 loc5
    obtain ⟨A5, cc5, rfl⟩ := own_shape own5
    have HD5 := Lib.hid hd5
    have HB5 := Lib.hid hb5
    have HY5 := Lib.hid hy5
    clear own5 g5 loc5 hd5 hb5 hy5
    refine hK.out _ _ hrg5 (fun _ => ?_)
    clear hK K
    try simp only [Act.put, List.setIfInBounds_toArray, List.set_cons_zero, List.set_cons_succ]
    refine wpAnyH_take (i := 8) (v := .pointer (some ⟨B, k * 341, none⟩)) rfl (by kernel_rfl) (by kernel_rfl) (by kernel_rfl) (fun _ _ _ h => h) (Or.inl ⟨by rfl, fun w' hSw => by go_simp⟩) hrg5 ?_
    try simp only [Act.put, List.setIfInBounds_toArray, List.set_cons_zero, List.set_cons_succ]
    refine wpAnyH_take (i := 9) (v := .pointer (some ⟨B, k * 341 + 340, none⟩)) rfl (by kernel_rfl) (by kernel_rfl) (by kernel_rfl) (fun _ _ _ h => h) (Or.inl ⟨by rfl, fun w' hSw => by go_simp⟩) hrg5 ?_
    try simp only [Act.put, List.setIfInBounds_toArray, List.set_cons_zero, List.set_cons_succ]
    refine wpAnyH_ready (rs := [10]) (by kernel_rfl) (by simp) ?_
    refine AllReadyH.cons rfl (fun K hK => ?_) AllReadyH.nil
    go_simp
    refine hK.out _ _ hrS (fun _ => ?_)
    clear hK K
    refine wpAnyH_done (by kernel_rfl) ?_ _
    go_wp2
    go_end0
    exact ⟨rfl, HD5.out, HB5.out, HY5.out⟩
end Go.Proofs.Ytgkenknplepmeaa
