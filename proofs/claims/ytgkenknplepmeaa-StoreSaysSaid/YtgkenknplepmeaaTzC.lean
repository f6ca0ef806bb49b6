/-
  WALKS: package disk's add, and whatever is no cells lies as it lay.
-/
import Derived.Test.YtgkenknplepmeaaDdC
import Derived.Test.YtgkenknplepmeaaDkF
import Derived.RangeFuncNested
namespace Go.Proofs.Ytgkenknplepmeaa
open Go.RowKit

def Tz (w w' : World) : Prop := Ty w w' ∧ KeepsOthers w w'
theorem ko_below {w w' : World} (h : Below w.heap.size w w') : KeepsOthers w w' := ⟨h.size, fun k _ hk _ => (h.block k (Array.getElem?_eq_some_iff.1 hk).1).trans hk⟩
theorem ko_upd {w w' : World} {S : Nat → Prop} (h : Upd w w' S) (hs : ∀ k o, S k → w.heap[k]? = some o → o.isCells = true) : KeepsOthers w w' :=
  ⟨h.size, fun k o hk ho => (h.block k (Array.getElem?_eq_some_iff.1 hk).1 (fun e => by rw [hs k o e hk] at ho; cases ho)).trans hk⟩
theorem ko_setCells {B : Nat} : ∀ (vs : List Value) (o : Nat) (w : World), KeepsOthers w (w.setCells B o vs)
  | [], _, w => KeepsOthers.refl w
  | v :: r, o, w => (KeepsOthers.setCell w ⟨B, o, none⟩ v).trans (ko_setCells r (o + 1) _)
theorem own_cells {w : World} {base s n g : Nat} {e : TypeId} {v : Value} {xs : List Value} {o : Obj} (ho : w.ownsRow base e s v n xs) (hg : v.ownBlock = some g) (h : w.heap[g]? = some o) : o.isCells = true := by
  rcases ho.2 with ⟨rfl, _⟩ | ⟨g', cap, cur, rfl, _, hb, _⟩
  · cases hg
  · obtain rfl : g' = g := by injection hg
    rw [hb] at h
    injection h with h
    rw [← h]; rfl
theorem Tz.refl (w : World) : Tz w w := ⟨Ty.refl w, KeepsOthers.refl w⟩
theorem Tz.trans {a b c : World} (h : Tz a b) (k : Tz b c) : Tz a c := ⟨h.1.trans k.1, h.2.trans k.2⟩
theorem Tz.of_below {w w' : World} (h : Below w.heap.size w w') : Tz w w' := ⟨Ty.of_below h, ko_below h⟩
theorem Tz.of_upd {w w' : World} {p : Nat} {cs : Array Value} (hp : Blk w p tDk cs) (h : Upd w w' (fun k => k = p)) : Tz w w' :=
  ⟨Ty.of_upd hp h, ko_upd h (fun k o e hk => by subst e; unfold Blk at hp; rw [hp] at hk; injection hk with hk; rw [← hk]; rfl)⟩
theorem Tz.of_updOwn {w w' : World} {base s n : Nat} {v : Value} {xs : List Value} (ho : w.ownsRow base tWt s v n xs) {u : Value} (hu : u.ownBlock = v.ownBlock) (h : Upd w w' (fun g => u.ownBlock = some g)) : Tz w w' :=
  ⟨fun g _ _ hb _ _ h3 => (h.block g hb.lt (fun e => own_block_ne ho hb h3 (hu ▸ e))).trans hb, ko_upd h (fun k o e hk => own_cells ho (hu ▸ e) hk)⟩
theorem Tz.setB {w : World} {B i : Nat} {cs : Array Value} (hB : Blk w B tSe cs) (v : Value) : Tz w (w.setCell ⟨B, i, none⟩ v) := ⟨Ty.setB hB v, KeepsOthers.setCell _ _ _⟩
theorem Tz.setP {w : World} {p i : Nat} {cs : Array Value} (hp : Blk w p tDk cs) (v : Value) : Tz w (w.setCell ⟨p, i, none⟩ v) := ⟨Ty.setP hp v, KeepsOthers.setCell _ _ _⟩
theorem Tz.grown {w w' : World} {base n s : Nat} {v : Value} {xs : List Value} (ho : w.ownsRow base tWt s v n xs) (hg : w.grownBy w' v.ownBlock) : Tz w w' := ⟨Ty.grown ho hg, KeepsOthers.of_grownBy hg (fun _ _ e hk => own_cells ho e hk)⟩
theorem Tz.alloc (w : World) (o : Obj) : Tz w (w.alloc o) := ⟨Ty.alloc w o, KeepsOthers.alloc w o⟩
theorem Tz.drew {w w' : World} (h : Tz w w') : Tz w w'.drew := ⟨h.1, h.2.size, h.2.same⟩
theorem Tz.setCellsB {w : World} {B : Nat} {cs : Array Value} (hB : Blk w B tSe cs) (o : Nat) (vs : List Value) : Tz w (w.setCells B o vs) := ⟨Ty.setCellsB hB o vs, ko_setCells _ _ _⟩
end Go.Proofs.Ytgkenknplepmeaa
namespace Go.Proofs.Ytgkenknplepmeaa
open Go.RowKit

set_option maxRecDepth 100000 in
set_option maxHeartbeats 2000000 in
theorem addz_any (base p B k nx : Nat) (V : Nat → Value) (D0 : Dk) (data : ByteArray) (w : World) (h : DkAt w base p B V D0) (hk0 : k < D0.n) (hnx : nx < 64) (hds : data.size = 340) (hl : (D0.sec k).ws.length ≤ 100000) :
    Calls Try.prog 62 #[.pointer (some ⟨B, k * 341, none⟩), .agg (wrC (nx, data)).toArray] w fun e w' => e = .returned (.tuple #[]) ∧ (∃ V', DkAt w' base p B V' { D0 with sec := updS D0.sec k ⟨(D0.sec k).dur, strikeW nx (D0.sec k).ws ++ [(nx, data)]⟩ }) ∧ Below base w w' ∧ Tz w w' := by
  obtain ⟨D, hD⟩ : ∃ D : Dk, D = { D0 with sec := updS D0.sec k ⟨(D0.sec k).dur, strikeW nx (D0.sec k).ws⟩ } := ⟨_, rfl⟩
  have e1 : (D.sec k).ws = strikeW nx (D0.sec k).ws := by rw [hD]; exact congrArg Sec.ws (updS_at _ _ _)
  have hk : k < D.n := by rw [hD]; exact hk0
  have hE : ({ D0 with sec := updS D0.sec k ⟨(D0.sec k).dur, strikeW nx (D0.sec k).ws ++ [(nx, data)]⟩ } : Dk) = { D with sec := updS D.sec k ⟨(D.sec k).dur, (D.sec k).ws ++ [(nx, data)]⟩ } := by rw [hD]; simp only [updS_updS, updS_at]
  rw [hE]
  have HDD := Lib.hid hD
  have HE1 := Lib.hid e1
  clear hE hD e1
  obtain ⟨A, c, hV⟩ := own_shape (h.own k hk0)
  have hBlt := h.ltB
  have hbw : base ≤ w.heap.size := Nat.le_trans h.hB (Nat.le_of_lt hBlt)
  obtain ⟨m0, hm0⟩ : ∃ m, (D0.sec k).ws.length = m := ⟨_, rfl⟩
  obtain ⟨m, hm⟩ : ∃ m, (D.sec k).ws.length = m := ⟨_, rfl⟩
  have hmm : m ≤ m0 := by rw [← hm, HE1.out, ← hm0]; exact List.length_filter_le _ _
  have HGX := Lib.hid (show ∀ g, (Value.slice A m c).ownBlock = some g → g < w.heap.size from fun g hg => (h.Vlt hk0 (by rw [hV]; cases A <;> exact hg)).2)
  have hGX0 : (Value.slice A m0 c).ownBlock ≠ some w.heap.size := fun e => by have := (h.Vlt hk0 (g := w.heap.size) (by rw [hV, hm0]; exact e)).2; omega
  have hb1 : Below w.heap.size w (w.alloc (.cells (wrC (nx, data)).toArray tWt)) := (Below.refl _ _).alloc (Nat.le_refl _) _
  have h1 : DkAt (w.alloc (.cells (wrC (nx, data)).toArray tWt)) base p B V D0 := h.keep (fun g _ hg => hb1.block g hg)
  have c1 : (w.alloc (.cells (wrC (nx, data)).toArray tWt)).cell? ⟨B, k * 341 + 340, none⟩ = some (.slice A m0 c) := by
    have := h1.row k hk0 340 _ (seC_340 _ _ (h1.szd k hk0)); rw [this, hV, hm0]
  have hx1 : (w.alloc (.cells (wrC (nx, data)).toArray tWt)).cell? ⟨w.heap.size, 0, none⟩ = some (.int .i64 nx) := by rw [(Blk.new w tWt _).cell]; rfl
  have hX1 : Blk (w.alloc (.cells (wrC (nx, data)).toArray tWt)) w.heap.size tWt (wrC (nx, data)).toArray := Blk.new _ _ _
  have ho1 := h1.own k hk0
  rw [hV, hm0] at ho1
  have hsz1 : (w.alloc (.cells (wrC (nx, data)).toArray tWt)).heap.size = w.heap.size + 1 := by simp
  have HDel := Lib.hid (deleteF_any base w.heap.size nx m0 c A (D0.sec k).ws _ ho1 hm0 (fun x hx => (h.szw k hk0 x hx).1) hx1 (by omega) hGX0 (by omega))
  have HO1 := Lib.hid ho1
  have HD1 := Lib.hid h1
  have HX1 := Lib.hid hX1
  have HV := Lib.hid (show V k = .slice A m0 c by rw [hV, hm0])
  have HM := Lib.hid hm
  have HSW := Lib.hid (show ∀ x ∈ (D.sec k).ws, x.2.size = 340 ∧ x.1 < 64 from fun x hx => by rw [HE1.out] at hx; exact h.szw k hk0 x (strikeW_mem hx))
  have HZ1 := Lib.hid hsz1
  have HB1 := Lib.hid hb1
  have HY1 := Lib.hid (Tz.of_below hb1)
  have hlen := wrC_len (x := (nx, data)) hds
  have hin : (Try.prog.info? tWt).map (·.size) = some (wrC (nx, data)).length := by rw [hlen]; exact wt_info
  have HI := Lib.hid hin
  have HLn := Lib.hid hlen
  have HOne := Lib.hid (wrC_one (nx, data))
  have HNX := Lib.hid hnx
  have HDS := Lib.hid hds
  have HG0 := Lib.hid hGX0
  have hm5 : m ≤ 100000 := by omega
  have HLM := Lib.hid (show (strikeW nx (D0.sec k).ws).length = m by rw [← HE1.out]; exact hm)
  clear h hb1 h1 hx1 hX1 ho1 hsz1 hV hm hl hlen hin hnx hds hm0 hGX0
  generalize hwc : wrC (nx, data) = wc at *
  have HWC := Lib.hid hwc
  clear hwc
  go_enter Try.func62, Try.ntmps62
  go_wp2_with fail
  generalize w.alloc (.cells wc.toArray tWt) = w1 at *
  refine HDel.out.mono ?_
  rintro e w2 ⟨rfl, ho2, hu2⟩
  rw [HLM.out] at ho2 ⊢
  rw [← HE1.out] at ho2
  have h2s := hu2.size
  obtain ⟨cs, hbk1, hcz⟩ := HD1.out.se
  have hnB : (Value.slice A m0 c).ownBlock ≠ some B := by have := HD1.out.VB hk0; rwa [HV.out] at this
  have eB := hu2.block B HD1.out.ltB hnB
  have hbk : Blk w2 B tSe cs := eB.trans hbk1
  have c2 : w2.cell? ⟨B, k * 341 + 340, none⟩ = some (.slice A m0 c) := (World.cell?_of_block (w := w1) (a := ⟨B, k * 341 + 340, none⟩) eB).trans c1
  have f2 := hbk.free (k * 341 + 340)
  have hob : (Value.slice A m c).ownBlock = (V k).ownBlock := by rw [HV.out]; cases A <;> rfl
  have h3 := HD1.out.swap hk0 (.slice A m c) (D.sec k).ws (fun g _ hlt hn => hu2.block g hlt (fun e => hn (by rw [HV.out]; exact e))) (by rw [HM.out]; exact ho2) (.inl hob) HSW.out
  rw [show ({ D0 with sec := updS D0.sec k ⟨(D0.sec k).dur, (D.sec k).ws⟩ } : Dk) = D by rw [HE1.out]; exact HDD.out.symm] at h3
  have hX3 : Blk (w2.setCell ⟨B, k * 341 + 340, none⟩ (.slice A m c)) w.heap.size tWt wc.toArray := by
    refine Blk.other ?_ (by omega) _
    exact (hu2.block w.heap.size (by rw [HZ1.out]; omega) HG0.out).trans HX1.out
  have hb3 : Below base w (w2.setCell ⟨B, k * 341 + 340, none⟩ (.slice A m c)) := ((HB1.out.mono hbw).trans (hu2.below (by rw [HZ1.out]; omega) (fun g hg => (HO1.out.lt g hg).1))).setCell (by simpa using HD1.out.hB) _
  have hs3 : w.heap.size + 1 ≤ (w2.setCell ⟨B, k * 341 + 340, none⟩ (.slice A m c)).heap.size := by simp [World.setCell]; rw [← HZ1.out]; exact h2s
  have HY3 := Lib.hid ((HY1.out.trans (Tz.of_updOwn HO1.out rfl hu2)).trans (Tz.setB (i := k * 341 + 340) hbk (.slice A m c)))
  have HC2 := Lib.hid h3
  have HX3 := Lib.hid hX3
  have HB3 := Lib.hid hb3
  have HS3 := Lib.hid hs3
  clear hbk hcz ho2 h3 hX3 hb3 hs3 hu2 c1 eB hnB hob hbk1 HO1 HG0 HLM HDD HE1
  go_wp2_with fail
  generalize w2.setCell ⟨B, k * 341 + 340, none⟩ (.slice A m c) = w3 at *
  clear c2 f2 HDel HX1 HD1 HZ1 HB1 h2s
  obtain ⟨i, hi, hz, hsz, hby⟩ := wt_parts
  have HTI := Lib.hid hi
  have HTZ := Lib.hid hz
  have HTS := Lib.hid hsz
  have HTB := Lib.hid hby
  clear hi hz hsz hby
  have c3 : w3.cell? ⟨B, k * 341 + 340, none⟩ = some (.slice A m c) := by
    have := HC2.out.row k hk 340 _ (seC_340 _ _ (HC2.out.szd k hk)); rw [this]; simp [updV]
  have hrX : w3.rangeAt w.heap.size 0 wc := fun j v hv => by
    rw [Nat.zero_add, HX3.out.cell j, List.getElem?_toArray]; exact hv
  have hrd : RdX (w3.alloc (.cells wc.toArray tWt)).drew 341 (some ⟨w3.heap.size, 0, none⟩) 1 wc := RdX.new w3 341 wc.toArray tWt (by rw [List.size_toArray]; exact HLn.out) (by intro u hu; exact HOne.out u (by simpa using hu))
  have hown : (w3.alloc (.cells wc.toArray tWt)).drew.ownsRow base tWt 341 (.slice A m c) m (wsC (D.sec k).ws) := by
    have := HC2.out.own k hk
    rw [HM.out] at this
    simp only [updV, if_true] at this
    exact ⟨this.1, by have h5 := (this.alloc (.cells wc.toArray tWt)).2; exact h5⟩
  have hbs : base ≤ (w3.alloc (.cells wc.toArray tWt)).drew.heap.size := by have := HS3.out; show base ≤ (w3.alloc _).heap.size; simp; omega
  have hB3 : B < w3.heap.size := HC2.out.ltB
  have hfin : ∀ v5 w5, w5.ownsRow base tWt 341 v5 (m + 1) (wsC (D.sec k).ws ++ wc) → (w3.alloc (.cells wc.toArray tWt)).drew.grownBy w5 (Value.slice A m c).ownBlock → (v5.ownBlock = (Value.slice A m c).ownBlock ∨ v5.ownBlock = some (w3.alloc (.cells wc.toArray tWt)).drew.heap.size) →
      w5.cell? ⟨B, k * 341 + 340, none⟩ = some (.slice A m c) ∧ w5.frozen? ⟨B, k * 341 + 340, none⟩ = false ∧ (∃ V', DkAt (w5.setCell ⟨B, k * 341 + 340, none⟩ v5) base p B V' { D with sec := updS D.sec k ⟨(D.sec k).dur, (D.sec k).ws ++ [(nx, data)]⟩ }) ∧ Below base w (w5.setCell ⟨B, k * 341 + 340, none⟩ v5) ∧ w5.rangeAt w.heap.size 0 wc ∧ (w5.setCell ⟨B, k * 341 + 340, none⟩ v5).rangeAt w.heap.size 0 wc ∧ Tz w (w5.setCell ⟨B, k * 341 + 340, none⟩ v5) := by
    intro v5 w5 o5 g5 l5
    have hV3 : updV V k (.slice A m c) k = .slice A m c := by simp [updV]
    have hne : ∀ g, (Value.slice A m c).ownBlock = some g → g ≠ B := fun g hg e => HC2.out.VB hk (by rw [hV3, hg, e])
    have hkeep : ∀ g, g < w3.heap.size → (Value.slice A m c).ownBlock ≠ some g → w5.heap[g]? = w3.heap[g]? := fun g hg hn => (g5.block g (by show g < (w3.alloc _).heap.size; simp; omega) (fun e => hn e.symm)).trans (Below.heap_alloc _ _ _ hg)
    have hBk := hkeep B hB3 (fun e => hne B e rfl)
    obtain ⟨cs, hbk, _⟩ := HC2.out.se
    have hbk5 : Blk w5 B tSe cs := hBk.trans hbk
    have hXk := hkeep w.heap.size (by have := HS3.out; omega) (fun e => by have := HGX.out _ e; omega)
    have hr5 : w5.rangeAt w.heap.size 0 wc := rangeAt_block hrX hXk
    refine ⟨(World.cell?_of_block (w := w3) (a := ⟨B, k * 341 + 340, none⟩) hBk).trans c3, hbk5.free _, ⟨_, HC2.out.swap hk v5 ((D.sec k).ws ++ [(nx, data)]) (fun g _ hg hn => hkeep g hg (by rw [hV3] at hn; exact hn)) ?_ ?_ ?_⟩, ?_, hr5, rangeAt_block hr5 (Below.heap_setCell _ _ _ _ (by show w.heap.size ≠ B; omega)), ((HY3.out.trans (Tz.alloc w3 (.cells wc.toArray tWt)).drew).trans (Tz.grown hown g5)).trans (Tz.setB hbk5 v5)⟩
    · rw [List.length_append, HM.out, wsC_snoc, HWC.out]; exact o5
    · rw [hV3]
      rcases l5 with e | e
      · exact .inl e
      · refine .inr (fun g hg => ?_)
        rw [e] at hg
        injection hg with hg
        rw [← hg]
        show w3.heap.size ≤ (w3.alloc _).heap.size
        simp
    · intro x hx
      rcases List.mem_append.1 hx with h | h
      · exact HSW.out x h
      · rw [List.mem_singleton] at h
        subst h
        exact ⟨HDS.out, HNX.out⟩
    · refine ((HB3.out.trans ?_).grown g5 hbs (fun g' hg' => (hown.lt g' hg').1)).setCell (by simpa using HC2.out.hB) _
      exact ((Below.refl base w3).alloc (by have := HS3.out; omega) _).drew
  have HFin := Lib.hid hfin
  have HRX := Lib.hid hrX
  have HRD := Lib.hid hrd
  have HOW := Lib.hid hown
  clear hfin hrX hrd hown HX3 HC2 HB3
  have hr0 : w3.drew.rangeAt w.heap.size 0 wc := HRX.out
  have hra : (w3.alloc (.cells wc.toArray tWt)).drew.rangeAt w.heap.size 0 wc := World.rangeAt_alloc HRX.out _
  refine wp_region_held_drew (S := fun w' => w'.rangeAt w.heap.size 0 wc) (by kernel_rfl) hr0 (fun _ => ?_)
  refine wpAnyH_take (i := 0) (v := .pointer (some ⟨B, k * 341, none⟩)) rfl (by kernel_rfl) (by kernel_rfl) (by kernel_rfl) (fun _ _ _ h => h) (Or.inl ⟨by rfl, fun w' hSw => by go_simp⟩) hr0 ?_
  try simp only [Act.put, List.setIfInBounds_toArray, List.set_cons_zero, List.set_cons_succ]
  refine wpAnyH_take (i := 1) (v := .pointer (some ⟨B, k * 341, none⟩)) rfl (by kernel_rfl) (by kernel_rfl) (by kernel_rfl) (fun _ _ _ h => h) (Or.inl ⟨by rfl, fun w' hSw => by go_simp⟩) hr0 ?_
  try simp only [Act.put, List.setIfInBounds_toArray, List.set_cons_zero, List.set_cons_succ]
  refine wpAnyH_take (i := 2) (v := .pointer (some ⟨B, k * 341, none⟩)) rfl (by kernel_rfl) (by kernel_rfl) (by kernel_rfl) (fun _ _ _ h => h) (Or.inl ⟨by rfl, fun w' hSw => by go_simp⟩) hr0 ?_
  try simp only [Act.put, List.setIfInBounds_toArray, List.set_cons_zero, List.set_cons_succ]
  refine wpAnyH_take (i := 3) (v := .pointer (some ⟨B, k * 341 + 340, none⟩)) rfl (by kernel_rfl) (by kernel_rfl) (by kernel_rfl) (fun _ _ _ h => h) (Or.inl ⟨by rfl, fun w' hSw => by go_simp⟩) hr0 ?_
  try simp only [Act.put, List.setIfInBounds_toArray, List.set_cons_zero, List.set_cons_succ]
  refine wpAnyH_take (i := 5) (v := .agg wc.toArray) rfl (by kernel_rfl) (by kernel_rfl) (by kernel_rfl) (fun _ _ _ h => h) (yieldsIf_load_mid (by rfl) tWt (.tmp 3) rfl w.heap.size 0 rfl wc _ (fun w' hSw => hSw) Try.underlying106 rfl HI.out) hr0 ?_
  try simp only [Act.put, List.setIfInBounds_toArray, List.set_cons_zero, List.set_cons_succ]
  refine wpAnyH_ready (rs := [4, 6]) (by kernel_rfl) (by simp) ?_
  refine AllReadyH.cons rfl (fun K hK => ?_) ?_
  · go_simp
    refine hK.out _ _ hr0 (fun _ => ?_)
    clear hK K
    try simp only [Act.put, List.setIfInBounds_toArray, List.set_cons_zero, List.set_cons_succ]
    refine wpAnyH_ready (rs := [6]) (by kernel_rfl) (by simp) ?_
    refine AllReadyH.cons rfl (fun K hK => ?_) AllReadyH.nil
    refine step_buildSlice_one _ (by rfl) (.tmp 18) 108 tWt (by rfl) i wtZ wc.toArray Try.underlying108 HTI.out HTZ.out (by rw [List.size_toArray, HLn.out]; exact HTS.out) (by rw [List.size_toArray, HLn.out]; omega) (by rw [List.size_toArray, HLn.out]; omega) (by rfl) ?_
    refine hK.out _ _ hra (fun _ => ?_)
    clear hK K
    try simp only [Act.put, List.setIfInBounds_toArray, List.set_cons_zero, List.set_cons_succ]
    refine wpAnyH_ready (rs := [7]) (by kernel_rfl) (by simp) ?_
    refine AllReadyH.cons rfl (fun K hK => ?_) AllReadyH.nil
    refine step_append_rd _ (by rfl) (.tmp 17) (.tmp 19) _ (by rfl) base tWt i _ 341 352 Try.underlying108 HTI.out HTZ.out HTS.out HTB.out rfl (by decide) _ m _ (by rfl) HOW.out (some ⟨w3.heap.size, 0, none⟩) 1 1 wc (by rfl) HRD.out (by unfold maxLen; omega) (by omega) hbs ?_
    intro v5 w5 own5 g5 loc5
    obtain ⟨c5, f5, hd5, hb5, hrg5, hrS, hy5⟩ := HFin.out v5 w5 own5 g5 loc5
    obtain ⟨A5, cc5, rfl⟩ := own_shape own5
    have HD5 := Lib.hid hd5
    have HB5 := Lib.hid hb5
    have HY5 := Lib.hid hy5
    clear own5 g5 loc5 hd5 hb5 hy5
    refine hK.out _ _ hrg5 (fun _ => ?_)
    clear hK K
    try simp only [Act.put, List.setIfInBounds_toArray, List.set_cons_zero, List.set_cons_succ]
    refine wpAnyH_take (i := 8) (v := .pointer (some ⟨B, k * 341, none⟩)) rfl (by kernel_rfl) (by kernel_rfl) (by kernel_rfl) (fun _ _ _ h => h) (Or.inl ⟨by rfl, fun w' hSw => by go_simp⟩) hrg5 ?_
    try simp only [Act.put, List.setIfInBounds_toArray, List.set_cons_zero, List.set_cons_succ]
    refine wpAnyH_take (i := 9) (v := .pointer (some ⟨B, k * 341 + 340, none⟩)) rfl (by kernel_rfl) (by kernel_rfl) (by kernel_rfl) (fun _ _ _ h => h) (Or.inl ⟨by rfl, fun w' hSw => by go_simp⟩) hrg5 ?_
    try simp only [Act.put, List.setIfInBounds_toArray, List.set_cons_zero, List.set_cons_succ]
    refine wpAnyH_ready (rs := [10]) (by kernel_rfl) (by simp) ?_
    refine AllReadyH.cons rfl (fun K hK => ?_) AllReadyH.nil
    go_simp
    refine hK.out _ _ hrS (fun _ => ?_)
    clear hK K
    refine wpAnyH_done (by kernel_rfl) ?_ _
    go_wp2
    go_end0
    exact ⟨rfl, HD5.out, HB5.out, HY5.out⟩
  · refine AllReadyH.cons rfl (fun K hK => ?_) AllReadyH.nil
    refine step_buildSlice_one _ (by rfl) (.tmp 18) 108 tWt (by rfl) i wtZ wc.toArray Try.underlying108 HTI.out HTZ.out (by rw [List.size_toArray, HLn.out]; exact HTS.out) (by rw [List.size_toArray, HLn.out]; omega) (by rw [List.size_toArray, HLn.out]; omega) (by rfl) ?_
    refine hK.out _ _ hra (fun _ => ?_)
    clear hK K
    try simp only [Act.put, List.setIfInBounds_toArray, List.set_cons_zero, List.set_cons_succ]
    refine wpAnyH_ready (rs := [4]) (by kernel_rfl) (by simp) ?_
    refine AllReadyH.cons rfl (fun K hK => ?_) AllReadyH.nil
    have c4 : (w3.alloc (.cells wc.toArray tWt)).cell? ⟨B, k * 341 + 340, none⟩ = some (.slice A m c) := by rw [World.cell?_alloc_lt _ _ _ hB3]; exact c3
    go_simp
    refine hK.out _ _ hra (fun _ => ?_)
    clear hK K
    try simp only [Act.put, List.setIfInBounds_toArray, List.set_cons_zero, List.set_cons_succ]
    refine wpAnyH_ready (rs := [7]) (by kernel_rfl) (by simp) ?_
    refine AllReadyH.cons rfl (fun K hK => ?_) AllReadyH.nil
    refine step_append_rd _ (by rfl) (.tmp 17) (.tmp 19) _ (by rfl) base tWt i _ 341 352 Try.underlying108 HTI.out HTZ.out HTS.out HTB.out rfl (by decide) _ m _ (by rfl) HOW.out (some ⟨w3.heap.size, 0, none⟩) 1 1 wc (by rfl) HRD.out (by unfold maxLen; omega) (by omega) hbs ?_
    intro v5 w5 own5 g5 loc5
    obtain ⟨c5, f5, hd5, hb5, hrg5, hrS, hy5⟩ := HFin.out v5 w5 own5 g5 loc5
    obtain ⟨A5, cc5, rfl⟩ := own_shape own5
    have HD5 := Lib.hid hd5
    have HB5 := Lib.hid hb5
    have HY5 := Lib.hid hy5
    clear own5 g5 loc5 hd5 hb5 hy5
    refine hK.out _ _ hrg5 (fun _ => ?_)
    clear hK K
    try simp only [Act.put, List.setIfInBounds_toArray, List.set_cons_zero, List.set_cons_succ]
    refine wpAnyH_take (i := 8) (v := .pointer (some ⟨B, k * 341, none⟩)) rfl (by kernel_rfl) (by kernel_rfl) (by kernel_rfl) (fun _ _ _ h => h) (Or.inl ⟨by rfl, fun w' hSw => by go_simp⟩) hrg5 ?_
    try simp only [Act.put, List.setIfInBounds_toArray, List.set_cons_zero, List.set_cons_succ]
    refine wpAnyH_take (i := 9) (v := .pointer (some ⟨B, k * 341 + 340, none⟩)) rfl (by kernel_rfl) (by kernel_rfl) (by kernel_rfl) (fun _ _ _ h => h) (Or.inl ⟨by rfl, fun w' hSw => by go_simp⟩) hrg5 ?_
    try simp only [Act.put, List.setIfInBounds_toArray, List.set_cons_zero, List.set_cons_succ]
    refine wpAnyH_ready (rs := [10]) (by kernel_rfl) (by simp) ?_
    refine AllReadyH.cons rfl (fun K hK => ?_) AllReadyH.nil
    go_simp
    refine hK.out _ _ hrS (fun _ => ?_)
    clear hK K
    refine wpAnyH_done (by kernel_rfl) ?_ _
    go_wp2
    go_end0
    exact ⟨rfl, HD5.out, HB5.out, HY5.out⟩
end Go.Proofs.Ytgkenknplepmeaa
