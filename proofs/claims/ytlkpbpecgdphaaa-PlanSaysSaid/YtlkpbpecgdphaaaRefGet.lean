/-
  WALKS: hammerpondref.Get: what it gives, for lists of at most a million files.
-/
import Derived.Test.YtlkpbpecgdphaaaRc
import Derived.Test.YtlkpbpecgdphaaaPj
import Derived.Test.YtlkpbpecgdphaaaUr
import Derived.Test.YtlkpbpecgdphaaaPg
import Derived.Test.YtlkpbpecgdphaaaExpText
import Derived.Test.YtlkpbpecgdphaaaTexts
namespace Go.Proofs.Ytlkpbpecgdphaaa
open Go.RowKit

def NmOk (out : List Gp) : Prop := ∀ g ∈ out, g.tg.length ≤ 1000 ∧ g.nd.length ≤ 1000 ∧ g.cm.length ≤ 1000 ∧ g.tg ≠ [] ∧ ∀ x ∈ g.tg, x.size ≤ 1000
theorem NmOk.gs {out : List Gp} (h : NmOk out) : GsOk out := fun g hg => ⟨(h g hg).1, (h g hg).2.1, (h g hg).2.2.1, fun x hx => Nat.le_trans ((h g hg).2.2.2.2 x hx) (by omega)⟩
theorem grp_nm {m : Mk} {l : List F} {name : ByteArray} {g : Gp} (hL : Lim m) (hl : ∀ f ∈ l, f.1.size ≤ 1000) (hn : name.size ≤ 1000) (h : grpR m l name = some g) : NmOk [g] ∧ ∀ x ∈ g.nd, x.size ≤ 1000 := by
  rcases grp_cases h with ⟨r, hr, rfl, _⟩ | ⟨_, r, hr, rfl, hf⟩
  · refine ⟨fun g' hg' => ?_, fun x hx => hL.nsz r hr x hx⟩
    rw [List.mem_singleton.1 hg']
    have a := hL.tgs r hr
    have b := hL.nds r hr
    have c := hL.cms r hr
    exact ⟨by show r.1.length ≤ 1000; omega, by show r.2.1.length ≤ 1000; omega, by show (r.2.2.map _).length ≤ 1000; rw [List.length_map]; omega, hL.ne r hr, fun x hx => hL.tsz r hr x hx⟩
  · refine ⟨fun g' hg' => ?_, fun x hx => ?_⟩
    · rw [List.mem_singleton.1 hg']
      have b := hL.nds r hr
      have c := hL.cms r hr
      exact ⟨by show [name].length ≤ 1000; simp, by show (fillR r.2.1 _).length ≤ 1000; unfold fillR; rw [List.length_map]; omega, by show (r.2.2.map _).length ≤ 1000; rw [List.length_map]; omega, by show [name] ≠ []; simp, fun x hx => by rw [List.mem_singleton.1 hx]; exact hn⟩
    · unfold fitsB at hf
      rw [Bool.and_eq_true] at hf
      have hx2 := List.all_eq_true.1 hf.2 x hx
      rw [Bool.or_eq_true] at hx2
      rcases hx2 with h2 | h2
      · unfold has at h2
        obtain ⟨f, hf1, hf2⟩ := List.any_eq_true.1 h2
        have : f.1 = x := by simpa using hf2
        rw [← this]; exact hl f hf1
      · unfold explO at h2
        rw [List.findIdx?_isSome, List.any_eq_true] at h2
        obtain ⟨r', hr', h3⟩ := h2
        exact hL.tsz r' hr' x (inT_mem.1 h3)
theorem NmOk.append {a b : List Gp} (h : NmOk a) (k : NmOk b) : NmOk (a ++ b) := fun g hg => by
  rcases List.mem_append.1 hg with x | x
  · exact h g x
  · exact k g x
theorem needs_nm {f : ByteArray → List Gp → Nat × List Gp} : ∀ (nd : List ByteArray), (∀ x ∈ nd, ∀ out, NmOk out → NmOk (f x out).2) → ∀ out, NmOk out → NmOk (needsR f nd out).2
  | [], _, out, h => h
  | x :: xs, hf, out, h => by
    unfold needsR
    split
    · exact hf x List.mem_cons_self out h
    · exact needs_nm xs (fun y hy => hf y (List.mem_cons_of_mem _ hy)) _ (hf x List.mem_cons_self out h)
theorem visit_nm {m : Mk} {l : List F} (hL : Lim m) (hl : ∀ f ∈ l, f.1.size ≤ 1000) : ∀ (n : Nat) (name : ByteArray) (way : List ByteArray) (out : List Gp), name.size ≤ 1000 → NmOk out → NmOk (visitR m l n name way out).2
  | 0, _, _, out, _, h => h
  | n + 1, name, way, out, hn, h => by
    unfold visitR
    split
    · exact h
    split
    · exact h
    cases hg : grpR m l name with
    | none => dsimp only; split <;> exact h
    | some g =>
      dsimp only
      obtain ⟨h1, h2⟩ := grp_nm hL hl hn hg
      have hnd := needs_nm (f := fun x o => visitR m l n x (way ++ g.tg) o) g.nd (fun x hx o ho => visit_nm hL hl n x _ o (h2 x hx) ho) out h
      split
      · exact hnd
      split
      · exact h
      · exact hnd.append h1
theorem graph_nm {m : Mk} {l : List F} {goal : ByteArray} (hL : Lim m) (hl : ∀ f ∈ l, f.1.size ≤ 1000) (hg : goal.size ≤ 1000) : NmOk (graphR m l goal).2 := by
  unfold graphR
  split
  · split
    · exact visit_nm hL hl _ _ _ _ hg (fun g h => by cases h)
    · exact fun g h => by cases h
  · exact fun g h => by cases h
theorem grp_made {m : Mk} {l : List F} {name x : ByteArray} {g : Gp} (h : grpR m l name = some g) (hx : x ∈ g.tg) : grpR m l x ≠ none := by
  rcases grp_cases h with ⟨r, hr, rfl, _⟩ | ⟨_, r, hr, rfl, hf⟩
  · have hx' : x ∈ r.1 := hx
    have he : (explO m.rules x).isSome = true := by
      unfold explO
      rw [List.findIdx?_isSome, List.any_eq_true]
      exact ⟨r, hr, inT_mem.2 hx'⟩
    unfold grpR
    obtain ⟨i, hi⟩ := Option.isSome_iff_exists.1 he
    rw [hi]
    dsimp only
    obtain ⟨hi2, _, _⟩ := List.findIdx?_eq_some_iff_getElem.1 hi
    rw [List.getElem?_eq_getElem hi2]
    simp
  · rw [show x = name from List.mem_singleton.1 hx, h]; simp
theorem mkQ_mkM {m : Mk} {l : List F} {out : List Gp} (h : OutOk m l out) : mkQ out = mkM out := by
  funext i
  cases hg : out[i]? with
  | none => simp [mkQ, mkM, hg]
  | some g =>
    simp only [mkQ, mkM, hg]
    refine List.map_congr_left fun x hx => ?_
    rcases h.needs i g hg x hx with h1 | ⟨_, h1⟩
    · obtain ⟨k, hk⟩ := Option.isSome_iff_exists.1 h1
      have := maker_more hk (out.drop i)
      rw [List.take_append_drop] at this
      rw [hk, this]
    · have hno : makerO out x = none := by
        cases hq : makerO out x with
        | none => rfl
        | some k =>
          obtain ⟨g', hg', hx'⟩ := maker_mem.1 (by rw [hq]; rfl : (makerO out x).isSome = true)
          obtain ⟨nm, hnm⟩ := h.grp g' hg'
          exact absurd h1 (grp_made hnm hx')
      rw [hno]
      cases hq : makerO (out.take i) x with
      | none => rfl
      | some k =>
        have := maker_more hq (out.drop i)
        rw [List.take_append_drop, hno] at this
        cases this
theorem unitsQ_M {m : Mk} {l : List F} {out : List Gp} (h : OutOk m l out) (n : Nat) (hn : out.length = n) (st : List Bool) (ph : Nat → Bool) : unitsQ n st (marksR n st (mkQ out) n) ph = unitsF (clUpto n st (mkM out) n) n ph := by
  rw [mkQ_mkM h]
  refine unitsQ_eq (fun i hi o ho a ha => ?_) ph
  subst ha
  unfold mkM at ho
  cases hg : out[i]? with
  | none => rw [hg] at ho; cases ho
  | some g =>
    rw [hg] at ho
    obtain ⟨x, _, hx⟩ := List.mem_map.1 ho
    have := makerO_lt hx
    omega
end Go.Proofs.Ytlkpbpecgdphaaa
namespace Go.Proofs.Ytlkpbpecgdphaaa
open Go.RowKit

/-- A slice of records with their names. -/
structure KpRd (w : World) (A : Option Addr) (n c : Nat) (K : Kp) : Prop where
  len : K.length = n
  cap : n ≤ c ∧ c ≤ maxLen
  each : ∀ (i : Nat) (s : ByteArray) (r : Rcd), K[i]? = some (s, r) → ∃ b off A0 n0 c0 A1 n1 c1 A2 n2 c2, A = some ⟨b, off, none⟩ ∧ b < w.heap.size ∧ w.cell? ⟨b, off + i * 4, none⟩ = some (.string s) ∧ w.cell? ⟨b, off + i * 4 + 1, none⟩ = some (.slice A0 n0 c0) ∧ w.cell? ⟨b, off + i * 4 + 2, none⟩ = some (.slice A1 n1 c1) ∧ w.cell? ⟨b, off + i * 4 + 3, none⟩ = some (.slice A2 n2 c2) ∧
    RdS w w.heap.size A0 n0 c0 r.1 ∧ RdF w w.heap.size A1 n1 c1 r.2.1 ∧ RdF w w.heap.size A2 n2 c2 r.2.2
theorem KpRd.belowS {w w' : World} {A : Option Addr} {n c : Nat} {K : Kp} (h : KpRd w A n c K) (hb : Below w.heap.size w w') : KpRd w' A n c K :=
  ⟨h.len, h.cap, fun i s r hi => by
    obtain ⟨b, off, A0, n0, c0, A1, n1, c1, A2, n2, c2, e, hl, h0, h1, h2, h3, r0, r1, r2⟩ := h.each i s r hi
    have k := fun j => hb.cell (p := ⟨b, j, none⟩) hl
    exact ⟨b, off, A0, n0, c0, A1, n1, c1, A2, n2, c2, e, Nat.lt_of_lt_of_le hl hb.size, (k _).trans h0, (k _).trans h1, (k _).trans h2, (k _).trans h3, r0.belowS hb, r1.belowS hb, r2.belowS hb⟩⟩
/-- The map's pairs and the records go together. -/
def BothK (w : World) : List (ByteArray × Value) → Kp → Prop
  | [], [] => True
  | x :: M, y :: K => x.1 = y.1 ∧ RcV w x.2 y.2 ∧ BothK w M K
  | _, _ => False
theorem BothK.low {w w' : World} (hb : Below w.heap.size w w') : ∀ (M : List (ByteArray × Value)) (K : Kp), BothK w M K → BothK w' M K
  | [], [], _ => trivial
  | _ :: M, _ :: K, h => ⟨h.1, h.2.1.low hb, BothK.low hb M K h.2.2⟩
  | [], _ :: _, h => h.elim
  | _ :: _, [], h => h.elim
theorem BothK.look {w : World} : ∀ (M : List (ByteArray × Value)) (K : Kp), BothK w M K → ∀ s, (lookK K s = none ∧ lookK M s = none) ∨ ∃ u r, lookK M s = some u ∧ lookK K s = some r ∧ RcV w u r
  | [], [], _, _ => .inl ⟨rfl, rfl⟩
  | (a, u) :: M, (b, r) :: K, h, s => by
    obtain ⟨e, hr, h⟩ := h
    dsimp only at e
    subst e
    rw [lookK_cons, lookK_cons]
    by_cases q : a = s
    · rw [if_pos q, if_pos q]; exact .inr ⟨u, r, rfl, rfl, hr⟩
    · rw [if_neg q, if_neg q]; exact BothK.look M K h s
  | [], _ :: _, h, _ => h.elim
  | _ :: _, [], h, _ => h.elim
def KoRel (w : World) (bm n : Nat) (K : Kp) (i : Value) (wr : World) : Prop := ∃ (k : Nat) (M : List (ByteArray × Value)), k ≤ n ∧ i = .int .i64 ((k : Int) - 1) ∧ Below w.heap.size w wr ∧ bm < wr.heap.size ∧ MapV wr bm (n - k) M ∧ BothK wr M (K.drop k)
theorem grown_low {w w1 w' : World} {bm : Nat} (h : Below w.heap.size w w1) (hb : w.heap.size ≤ bm) (hg : w1.grownBy w' (some bm)) : Below w.heap.size w w' := h.grown hg h.size (fun g hg' => by injection hg' with e; omega)
/-- A map's turning leaves every other block. -/
theorem RcV.mapped {w w' : World} {bm : Nat} {v : Value} {r : Rcd} (h : RcV w v r) (hm : ∃ es c, w.heap[bm]? = some (.map es c)) (hg : w.grownBy w' (some bm)) : RcV w' v r := by
  obtain ⟨A0, n0, c0, A1, n1, c1, A2, n2, c2, e, h0, h1, h2⟩ := h
  have key : ∀ {b j : Nat} {u : Value}, w.cell? ⟨b, j, none⟩ = some u → w'.cell? ⟨b, j, none⟩ = some u := fun {b j u} hc => by
    have hne : some b ≠ some bm := fun e => by
      injection e with e
      obtain ⟨es, c, hm⟩ := hm
      unfold World.cell? at hc
      rw [show (⟨b, j, none⟩ : Addr).block = bm from e, hm] at hc
      simp at hc
    exact (World.cell?_of_block (w := w) (a := ⟨b, j, none⟩) (hg.block b (World.block_lt_of_cell? _ _ hc) hne)).trans hc
  refine ⟨A0, n0, c0, A1, n1, c1, A2, n2, c2, e, ⟨h0.1, h0.2.1, h0.2.2.1, fun h => ?_⟩, ⟨h1.1, h1.2.1, h1.2.2.1, fun h => ?_⟩, ⟨h2.1, h2.2.1, h2.2.2.1, fun h => ?_⟩⟩
  · obtain ⟨b, off, e, hb, hc⟩ := h0.2.2.2 h
    exact ⟨b, off, e, Nat.lt_of_lt_of_le hb hg.size, fun j u hu => key (hc j u hu)⟩
  · obtain ⟨b, off, e, hb, hc⟩ := h1.2.2.2 h
    exact ⟨b, off, e, Nat.lt_of_lt_of_le hb hg.size, fun j u hu => key (hc j u hu)⟩
  · obtain ⟨b, off, e, hb, hc⟩ := h2.2.2.2 h
    exact ⟨b, off, e, Nat.lt_of_lt_of_le hb hg.size, fun j u hu => key (hc j u hu)⟩
theorem BothK.mapped {w w' : World} {bm : Nat} (hm : ∃ es c, w.heap[bm]? = some (.map es c)) (hg : w.grownBy w' (some bm)) : ∀ (M : List (ByteArray × Value)) (K : Kp), BothK w M K → BothK w' M K
  | [], [], _ => trivial
  | _ :: M, _ :: K, h => ⟨h.1, h.2.1.mapped hm hg, BothK.mapped hm hg M K h.2.2⟩
  | [], _ :: _, h => h.elim
  | _ :: _, [], h => h.elim
set_option maxRecDepth 100000 in
set_option maxHeartbeats 4000000 in
theorem keptOf_any (A : Option Addr) (n c : Nat) (K : Kp) (w : World) (h : KpRd w A n c K) (hn : n ≤ 10000) (hs : ∀ x ∈ K, x.1.size ≤ maxLen) :
    Calls Try.prog 10 #[.slice A n c] w fun e w' => ∃ bm, e = .returned (.map (some bm)) ∧ KpM w' (.map (some bm)) n K ∧ Below w.heap.size w w' := by
  have hmm := @run_makeMap Try.prog
  have HR := Lib.hid h
  have HL := Lib.hid h.len
  have HS := Lib.hid hs
  have hba : Below w.heap.size w (w.alloc (.map #[] 0)) := (Below.refl _ _).alloc (Nat.le_refl _) _
  have HBA := Lib.hid hba
  have HM0 := Lib.hid (MapV.made w)
  clear h hs hba
  go_enter Try.func10, Try.ntmps10
  go_wp2
  go_loopw [4] (fun i wr => KoRel w w.heap.size n K i wr) (fun i _ => (intOf i + 1).toNat)
  case atStart => exact ⟨n, [], Nat.le_refl _, by go_num, HBA.out, by simp, by rw [Nat.sub_self]; exact HM0.out, by rw [List.drop_of_length_le (by rw [HL.out]; exact Nat.le_refl _)]; trivial⟩
  case round =>
    obtain ⟨k, M, hk, rfl, hb, hbm, hmv, hbo⟩ := hrel
    have HB := Lib.hid hb
    have HMV := Lib.hid hmv
    have HBO := Lib.hid hbo
    clear hb hmv hbo
    by_cases hlt : 0 < k
    · obtain ⟨i, hi⟩ : ∃ i, k = i + 1 := ⟨k - 1, by omega⟩
      have z1 : (k : Int) - 1 = (i : Int) := by omega
      obtain ⟨⟨s, r⟩, hx⟩ : ∃ x, K[i]? = some x := ⟨_, List.getElem?_eq_getElem (by rw [HL.out]; omega)⟩
      obtain ⟨b, off, A0, n0, c0, A1, n1, c1, A2, n2, c2, rfl, hbl, c3, c4, c5, c6, r0, r1, r2⟩ := (HR.out.belowS HB.out).each i s r hx
      have hd : K.drop i = (s, r) :: K.drop k := by rw [hi, List.drop_eq_getElem_cons (List.getElem?_eq_some_iff.1 hx).1]; rw [(List.getElem?_eq_some_iff.1 hx).2]
      have hst := (show MapV wr.drew w.heap.size (n - k) M from HMV.out).store Try.underlying43 s (.agg #[.slice A0 n0 c0, .slice A1 n1 c1, .slice A2 n2 c2]) (HS.out _ (List.mem_of_getElem? hx)) (by unfold maxLen; omega)
      obtain ⟨w6, hrun, hm6, hg6⟩ := hst
      have hbl6 : ∃ es c, wr.drew.heap[w.heap.size]? = some (.map es c) := HMV.out.block
      have hrv : RcV w6 (.agg #[.slice A0 n0 c0, .slice A1 n1 c1, .slice A2 n2 c2]) r := RcV.mapped (w := wr.drew) ⟨_, _, _, _, _, _, _, _, _, rfl, r0, r1, r2⟩ hbl6 hg6
      have hbo6 : BothK w6 ((s, .agg #[.slice A0 n0 c0, .slice A1 n1 c1, .slice A2 n2 c2]) :: M) (K.drop i) := by rw [hd]; exact ⟨rfl, hrv, BothK.mapped (w := wr.drew) hbl6 hg6 M _ (BothK.low (w := wr) (Below.refl _ _).drew M _ HBO.out)⟩
      have HB6 := Lib.hid (grown_low HB.out.drew (Nat.le_refl _) hg6)
      have HM6 := Lib.hid (show MapV w6 w.heap.size (n - i) ((s, .agg #[.slice A0 n0 c0, .slice A1 n1 c1, .slice A2 n2 c2]) :: M) from by rw [show n - i = n - k + 1 by omega]; exact hm6)
      have HBO6 := Lib.hid hbo6
      have hbm6 : w.heap.size < w6.heap.size := Nat.lt_of_lt_of_le hbm hg6.size
      have t1 : (0 : Int) ≤ (i : Int) := by omega
      have t2 : (i : Int) < (n : Int) := by omega
      rw [z1]
      clear hd hx r0 r1 r2 hm6 hg6 hbl6 hrv hbo6 HMV HBO hi
      go_wp2_with fail
      go_region_with (fail)
      all_goals go_wp2
      all_goals go_roundw
      all_goals first | exact ⟨i, _, by omega, by go_num, HB6.out, hbm6, HM6.out, HBO6.out⟩ | (simp [intOf]; done) | (simp [intOf]; omega)
    · obtain rfl : k = 0 := by omega
      have HKP := Lib.hid (show KpM wr (.map (some w.heap.size)) n K from ⟨M, .inr ⟨_, rfl, HMV.out⟩, BothK.look M K (by have := HBO.out; rwa [List.drop_zero] at this)⟩)
      go_wp2
      go_ret
      exact ⟨_, rfl, HKP.out, HB.out⟩
end Go.Proofs.Ytlkpbpecgdphaaa
namespace Go.Proofs.Ytlkpbpecgdphaaa
open Go.RowKit

/-! hammerpondref.Get: the first file of a name. -/
theorem first_text {l : List F} {x : ByteArray} {k : Nat} {f : F} (hk : l[k]? = some f) (hf : f.1 = x) (hno : ∀ j g, j < k → l[j]? = some g → g.1 ≠ x) : textF l x = f.2 ∧ has l x = true := by
  refine ⟨?_, has_iff.2 ⟨f, List.mem_of_getElem? hk, hf⟩⟩
  unfold textF
  have : l.find? (fun g => g.1 == x) = some f := by
    obtain ⟨h1, h2⟩ := List.getElem?_eq_some_iff.1 hk
    rw [List.find?_eq_some_iff_getElem]
    refine ⟨by simpa using hf, k, h1, h2, fun j hj => ?_⟩
    have := hno j l[j] hj (List.getElem?_eq_getElem (by omega))
    simpa using this
  rw [this]; rfl
def NoneTo (l : List F) (x : ByteArray) (k : Nat) : Prop := ∀ j g, j < k → l[j]? = some g → g.1 ≠ x
def GetRel (l : List F) (x : ByteArray) (i : Value) : Prop := ∃ k : Nat, k ≤ l.length ∧ i = .int .i64 k ∧ NoneTo l x k

set_option maxHeartbeats 1000000 in
set_option maxRecDepth 100000 in
theorem refGet_any (A : Option Addr) (n c : Nat) (l : List F) (x : ByteArray) (w : World) (h : RdF w w.heap.size A n c l) (hn : n ≤ 1000000) :
    Calls Try.prog 42 #[.slice A n c, .string x] w fun e w' => e = .returned (.tuple #[.string (textF l x), .bool (has l x)]) ∧ w = w' := by
  have HR := Lib.hid h
  have HL := Lib.hid h.1
  clear h
  generalize ht : textF l x = t
  generalize hh : has l x = b
  have HT := Lib.hid ht
  have HH := Lib.hid hh
  clear ht hh
  go_enter Try.func42, Try.ntmps42
  go_wp2
  go_loop [6] (fun i => GetRel l x i) (fun i => n - (intOf i).toNat)
  case atStart => exact ⟨0, Nat.zero_le _, rfl, fun j g h => by omega⟩
  case round =>
    obtain ⟨k, hk, rfl, hno⟩ := hrel
    have hkn : k ≤ n := by rw [← HL.out]; exact hk
    clear hk
    have HN := Lib.hid hno
    clear hno
    by_cases hlt : k < n
    · obtain ⟨f, hf⟩ : ∃ f, l[k]? = some f := ⟨_, List.getElem?_eq_getElem (by rw [HL.out]; exact hlt)⟩
      obtain ⟨b', off, rfl, _, hc1, hc2⟩ := HR.out.at_ hf
      have hkz : (k : Int) < (n : Int) := by omega
      have HF := Lib.hid hf
      clear hf
      obtain ⟨fx, ft⟩ := f
      cases hq : (fx.toList == x.toList) with
      | true =>
        have hres := first_text HF.out (toList_inj (by simpa using hq)) HN.out
        rw [HT.out, HH.out] at hres
        have HX := Lib.hid hres
        clear hres
        go_wp2
        go_ret2
        exact ⟨by rw [HX.out.1, HX.out.2]; rfl, rfl⟩
      | false =>
        go_wp2
        go_round
        case rel =>
          refine ⟨k + 1, by rw [HL.out]; omega, by go_num, fun j g hj hg => ?_⟩
          rcases Nat.lt_or_ge j k with h1 | h1
          · exact HN.out j g h1 hg
          · obtain rfl : j = k := by omega
            have e1 := HF.out
            rw [e1] at hg
            injection hg with hg
            subst hg
            rintro rfl
            simp at hq
        case measure => simp [intOf]; omega
    · obtain rfl : k = n := by omega
      have hno : has l x = false := by
        cases e : has l x with
        | false => rfl
        | true =>
          obtain ⟨f, hf, e2⟩ := has_iff.1 e
          obtain ⟨j, hj, e3⟩ := List.mem_iff_getElem.1 hf
          exact absurd e2 (by rw [← e3]; exact HN.out j l[j] (by rw [← HL.out]; exact hj) (List.getElem?_eq_getElem hj))
      have ht := textF_none hno
      rw [HH.out] at hno
      rw [HT.out] at ht
      have H1 := Lib.hid hno
      have H2 := Lib.hid ht
      clear hno ht
      go_wp2
      go_ret2
      exact ⟨by rw [H1.out, H2.out]; rfl, rfl⟩
end Go.Proofs.Ytlkpbpecgdphaaa
