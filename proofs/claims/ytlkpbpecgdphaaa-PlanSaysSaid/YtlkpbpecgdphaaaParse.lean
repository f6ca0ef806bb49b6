/-
  WALK: makefile.Parse: the description in a text (parseR), for texts of at most 100000 bytes.
-/
import Derived.Test.YtlkpbpecgdphaaaGf
import Derived.Test.YtlkpbpecgdphaaaFields
import Derived.Test.YtlkpbpecgdphaaaSet
import Derived.Test.YtlkpbpecgdphaaaRefWords
namespace Go.Proofs.Ytlkpbpecgdphaaa
open Go.RowKit

def GxRel {α : Type} (l : List α) (p : α → Bool) (n : Nat) (i : Value) : Prop := ∃ k : Nat, k ≤ n ∧ i = .int .i64 k ∧ l.findIdx? p = ((l.drop k).findIdx? p).map (· + k)
set_option maxHeartbeats 1600000 in
set_option maxRecDepth 100000 in
theorem makerOf_any (A : Option Addr) (n c : Nat) (out : List Gp) (R : List Row4) (name : ByteArray) (w : World) (h : GpRd w A n c out R) (ht : ∀ g ∈ out, g.tg.length ≤ 1000) :
    Calls Try.prog 26 #[.slice A n c, .string name] w fun e w' => e = .returned (.int .i64 (idxV (makerO out name))) ∧ w = w' := by
  obtain ⟨r, hr⟩ : ∃ r, r = idxV (makerO out name) := ⟨_, rfl⟩
  rw [← hr]
  have hnc := h.rows.2.1
  have hm := h.rows.2.2.1
  unfold maxLen at hm
  have HR := Lib.hid h.rows
  have HE := Lib.hid h.each
  have HT := Lib.hid ht
  have HL := Lib.hid h.len
  have HRL := Lib.hid h.rows.1
  have HV := Lib.hid hr
  clear h ht hr
  go_enter Try.func26, Try.ntmps26
  go_wp2
  go_loop [5] (fun i => GxRel out (fun g => inT g.tg name) n i) (fun i => n - (intOf i).toNat)
  case atStart => exact ⟨0, Nat.zero_le _, rfl, by simp⟩
  case round =>
    obtain ⟨k, hk, rfl, hno⟩ := hrel
    have HN := Lib.hid hno
    clear hno
    by_cases hlt : k < n
    · obtain ⟨x, hx⟩ : ∃ x, R[k]? = some x := ⟨_, List.getElem?_eq_getElem (by rw [HRL.out]; exact hlt)⟩
      obtain ⟨g, hg⟩ : ∃ g, out[k]? = some g := ⟨_, List.getElem?_eq_getElem (by rw [HL.out]; exact hlt)⟩
      obtain ⟨b', off, rfl, _, hc1, -⟩ := HR.out.at_ hx
      obtain ⟨⟨At, ct, et, rt⟩, -⟩ := HE.out k x g hx hg
      rw [et] at hc1
      have hkz : (k : Int) < (n : Int) := by omega
      have hgl := HT.out g (List.mem_of_getElem? hg)
      obtain ⟨q1, q2⟩ := findIdx_next HN.out hg
      have Q1 := Lib.hid q1
      have Q2 := Lib.hid q2
      have HI := Lib.hid (in_any At g.tg.length ct g.tg name w rt (by omega))
      clear q1 q2 hx hg et rt
      go_wp2_with fail
      refine HI.out.mono ?_
      rintro e w1 ⟨rfl, rfl⟩
      cases hb : inT g.tg name with
      | true =>
        have hf := Q1.out hb
        have hv := HV.out
        rw [show makerO out name = some k from hf] at hv
        have hv' : r = (k : Int) := hv
        subst hv'
        clear hb hf hv HV HI Q1 Q2 HN
        go_wp2
        go_ret
        exact ⟨rfl, rfl⟩
      | false =>
        have HF := Lib.hid (Q2.out hb)
        clear hb HI Q1 Q2
        go_wp2
        go_round
        case rel => exact ⟨k + 1, by omega, by go_num, HF.out⟩
        case measure => simp [intOf]; omega
    · obtain rfl : k = n := by omega
      have hf := findIdx_end HN.out (by rw [HL.out]; exact Nat.le_refl _)
      have hv := HV.out
      rw [show makerO out name = none from hf] at hv
      have hv' : r = -1 := hv
      subst hv'
      clear hf hv HV HN
      go_wp2
      go_ret
      exact ⟨rfl, rfl⟩
set_option maxHeartbeats 1600000 in
set_option maxRecDepth 100000 in
theorem explicit_any (m : Mk) (vv vr vp : Value) (R : List Row3) (name : ByteArray) (w : World) (h : MkRd w m vv vr vp R) (hn : m.rules.length ≤ 1000) (ht : ∀ r ∈ m.rules, r.1.length ≤ 1000) :
    Calls Try.prog 58 #[.agg #[vv, vr, vp], .string name] w fun e w' => e = .returned (.int .i64 (idxV (explO m.rules name))) ∧ Below w.heap.size w w' := by
  obtain ⟨r, hr⟩ : ∃ r, r = idxV (explO m.rules name) := ⟨_, rfl⟩
  rw [← hr]
  have hb0 : Below w.heap.size w (w.alloc (.cells #[vv, vr, vp] 36)) := (Below.refl _ _).alloc (Nat.le_refl _) _
  have hM := h.belowS hb0
  obtain ⟨Av, cv, rfl, -⟩ := hM.vars
  obtain ⟨Ar, cr, rfl, hrr⟩ := hM.rules
  obtain ⟨Ap, cp, rfl, -⟩ := hM.phony
  have z1 : (w.alloc (.cells #[.slice Av m.vars.length cv, .slice Ar R.length cr, .slice Ap m.phony.length cp] 36)).cell? ⟨w.heap.size, 1, none⟩ = some (.slice Ar R.length cr) := by rw [World.cell?_alloc_at _ _ _ _ rfl]; rfl
  have Z1 := Lib.hid z1
  have HR := Lib.hid hrr
  have HE := Lib.hid hM.each
  have HT := Lib.hid ht
  have HL := Lib.hid hM.len
  have HV := Lib.hid hr
  have HB := Lib.hid hb0
  have hrn : R.length ≤ 1000 := by rw [hM.len]; exact hn
  clear h hM hrr ht hr hb0 z1
  go_enter Try.func58, Try.ntmps58
  go_wp2_with fail
  generalize w.alloc (.cells #[.slice Av m.vars.length cv, .slice Ar R.length cr, .slice Ap m.phony.length cp] 36) = w1 at *
  have z1 := Z1.out
  go_loop [5] (fun i => GxRel m.rules (fun u => inT u.1 name) R.length i) (fun i => R.length - (intOf i).toNat)
  case atStart => exact ⟨0, Nat.zero_le _, rfl, by simp⟩
  case round =>
    obtain ⟨k, hk, rfl, hno⟩ := hrel
    have HN := Lib.hid hno
    clear hno
    by_cases hlt : k < R.length
    · obtain ⟨x, hx⟩ : ∃ x, R[k]? = some x := ⟨_, List.getElem?_eq_getElem hlt⟩
      obtain ⟨g, hg⟩ : ∃ g, m.rules[k]? = some g := ⟨_, List.getElem?_eq_getElem (by rw [← HL.out]; exact hlt)⟩
      obtain ⟨b', off, rfl, _, hc1, -⟩ := HR.out.at_ hx
      obtain ⟨⟨At, ct, et, rt⟩, -⟩ := HE.out k x g hx hg
      rw [et] at hc1
      have hkz : (k : Int) < (R.length : Int) := by omega
      have hgl := HT.out g (List.mem_of_getElem? hg)
      obtain ⟨q1, q2⟩ := findIdx_next HN.out hg
      have Q1 := Lib.hid q1
      have Q2 := Lib.hid q2
      have HI := Lib.hid (in_any At g.1.length ct g.1 name w1 rt (by omega))
      clear q1 q2 hx hg et rt
      go_wp2_with fail
      refine HI.out.mono ?_
      rintro e w2 ⟨rfl, rfl⟩
      cases hb : inT g.1 name with
      | true =>
        have hf := Q1.out hb
        have hv := HV.out
        rw [show explO m.rules name = some k from hf] at hv
        have hv' : r = (k : Int) := hv
        subst hv'
        clear hb hf hv HV HI Q1 Q2 HN
        go_wp2
        go_ret
        exact ⟨rfl, HB.out⟩
      | false =>
        have HF := Lib.hid (Q2.out hb)
        clear hb HI Q1 Q2
        go_wp2
        go_round
        case rel => exact ⟨k + 1, by omega, by go_num, HF.out⟩
        case measure => simp [intOf]; omega
    · obtain rfl : k = R.length := by omega
      have hf := findIdx_end HN.out (by rw [← HL.out]; exact Nat.le_refl _)
      have hv := HV.out
      rw [show explO m.rules name = none from hf] at hv
      have hv' : r = -1 := hv
      subst hv'
      clear hf hv HV HN
      go_wp2
      go_ret
      exact ⟨rfl, HB.out⟩
end Go.Proofs.Ytlkpbpecgdphaaa
namespace Go.Proofs.Ytlkpbpecgdphaaa
open Go.RowKit

abbrev tRu : TypeId := 81
/-- Maker's function literal: does a group make the name in box X? -/
abbrev mkF (X : Nat) : Value := .func (.func 68) #[] #[ptr X]
set_option maxRecDepth 100000 in
set_option maxHeartbeats 1000000 in
theorem maker1_any (tg : List ByteArray) (a b c : Value) (ph : Bool) (X : Nat) (name : ByteArray) (w : World) (ha : Sl w a tg) (ht : tg.length ≤ 1000) (hx : w.cell? ⟨X, 0, none⟩ = some (.string name)) (hX : X < w.heap.size) :
    Calls Try.prog 68 #[.agg #[a, b, c, .bool ph], ptr X] w fun e w' => e = .returned (.bool (inT tg name)) ∧ Below w.heap.size w w' := by
  have hba : Below w.heap.size w (w.alloc (.cells #[a, b, c, .bool ph] tGr)) := (Below.refl _ _).alloc (Nat.le_refl _) _
  obtain ⟨At, ct, rfl, hr⟩ := ha.belowS hba
  have c0 : (w.alloc (.cells #[.slice At tg.length ct, b, c, .bool ph] tGr)).cell? ⟨w.heap.size, 0, none⟩ = some (.slice At tg.length ct) := by rw [World.cell?_alloc_at _ _ _ _ rfl]; rfl
  have cX : (w.alloc (.cells #[.slice At tg.length ct, b, c, .bool ph] tGr)).cell? ⟨X, 0, none⟩ = some (.string name) := by rw [World.cell?_alloc_lt _ _ _ hX]; exact hx
  have HB := Lib.hid hba
  have HC := Lib.hid (contains_any At tg.length ct tg name _ hr (by omega))
  generalize hh : inT tg name = bb at *
  clear hba hr ha hh
  go_enter Try.func68, Try.ntmps68
  go_wp2_with fail
  refine HC.out.mono ?_
  rintro e w1 ⟨rfl, rfl⟩
  go_wp2
  go_ret
  exact ⟨rfl, HB.out⟩

/-- A search over a list by calls that only make memory: k of them are done. -/
def IxRel {α : Type} (w : World) (l : List α) (p : α → Bool) (n : Nat) (i : Value) (wr : World) : Prop := ∃ k : Nat, k ≤ n ∧ i = .int .i64 k ∧ l.findIdx? p = ((l.drop k).findIdx? p).map (· + k) ∧ Below w.heap.size w wr
set_option maxRecDepth 100000 in
set_option maxHeartbeats 2000000 in
theorem indexG_any (X : Nat) (A : Option Addr) (n c : Nat) (out : List Gp) (R : List Row4) (name : ByteArray) (w : World) (h : GpRd w A n c out R) (hn : n ≤ 1000000) (ht : ∀ g ∈ out, g.tg.length ≤ 1000) (hx : w.cell? ⟨X, 0, none⟩ = some (.string name)) (hX : X < w.heap.size) :
    Calls Try.prog 67 #[.slice A n c, mkF X] w fun e w' => e = .returned (.int .i64 (idxV (makerO out name))) ∧ Below w.heap.size w w' := by
  obtain ⟨r, hr⟩ : ∃ r, r = idxV (makerO out name) := ⟨_, rfl⟩
  rw [← hr]
  have HH := Lib.hid h
  have HT := Lib.hid ht
  have HX := Lib.hid hx
  have HV := Lib.hid hr
  have HL := Lib.hid h.len
  have HRL := Lib.hid h.rows.1
  clear h ht hx hr
  go_enter Try.func67, Try.ntmps67
  go_wp2
  go_loopw [8] (fun i wr => IxRel w out (fun g => inT g.tg name) n i wr) (fun i _ => n - (intOf i).toNat)
  case atStart => exact ⟨0, Nat.zero_le _, rfl, by simp, Below.refl _ _⟩
  case round =>
    obtain ⟨k, hk, rfl, hno, hb⟩ := hrel
    have HN := Lib.hid hno
    have HB := Lib.hid hb
    have hsz := hb.size
    clear hno hb
    by_cases hlt : k < n
    · obtain ⟨x, hx⟩ : ∃ x, R[k]? = some x := ⟨_, List.getElem?_eq_getElem (by rw [HRL.out]; exact hlt)⟩
      obtain ⟨g, hg⟩ : ∃ g, out[k]? = some g := ⟨_, List.getElem?_eq_getElem (by rw [HL.out]; exact hlt)⟩
      have hh := HH.out.belowS HB.out
      obtain ⟨b', off, rfl, _, c1, c2, c3, c4⟩ := hh.rows.at_ hx
      obtain ⟨s1, -⟩ := hh.each k x g hx hg
      obtain ⟨x1, x2, x3, x4⟩ := x
      dsimp only at c1 c2 c3 c4 s1
      have hkz : (k : Int) < (n : Int) := by omega
      obtain ⟨q1, q2⟩ := findIdx_next HN.out hg
      have Q1 := Lib.hid q1
      have Q2 := Lib.hid q2
      have hc := (maker1_any g.tg x1 x2 x3 x4 X name wr s1 (HT.out g (List.mem_of_getElem? hg)) ((HB.out.cell (p := ⟨X, 0, none⟩) hX).trans HX.out) (by omega))
      clear q1 q2 hx hg hh s1
      cases hb : inT g.tg name with
      | true =>
        rw [hb] at hc
        have HC := Lib.hid hc
        clear hc
        have hf := Q1.out hb
        have hv := HV.out
        rw [show makerO out name = some k from hf] at hv
        have hv' : r = (k : Int) := hv
        subst hv'
        clear hb hf hv HV Q1 Q2 HN
        go_wp2_with (go_at_call 68; refine HC.out.mono ?_; rintro e w2 ⟨rfl, hb2⟩; have HB2 := Lib.hid (HB.out.trans (hb2.mono hsz)); clear hb2)
        go_ret
        exact ⟨rfl, HB2.out⟩
      | false =>
        have HF := Lib.hid (Q2.out hb)
        rw [hb] at hc
        have HC := Lib.hid hc
        clear hb Q1 Q2 hc
        go_wp2_with (go_at_call 68; refine HC.out.mono ?_; rintro e w2 ⟨rfl, hb2⟩; have HB2 := Lib.hid (HB.out.trans (hb2.mono hsz)); clear hb2)
        go_roundw
        case rel => exact ⟨k + 1, by omega, by go_num, HF.out, HB2.out⟩
        case measure => simp [intOf]; omega
    · obtain rfl : k = n := by omega
      have hf := findIdx_end HN.out (by rw [HL.out]; exact Nat.le_refl _)
      have hv := HV.out
      rw [show makerO out name = none from hf] at hv
      have hv' : r = -1 := hv
      subst hv'
      clear hf hv HV HN
      go_wp2
      go_ret
      exact ⟨rfl, HB.out⟩
set_option maxRecDepth 100000 in
set_option maxHeartbeats 1000000 in
theorem maker_any (A : Option Addr) (n c : Nat) (out : List Gp) (R : List Row4) (name : ByteArray) (w : World) (h : GpRd w A n c out R) (hn : n ≤ 1000000) (ht : ∀ g ∈ out, g.tg.length ≤ 1000) :
    Calls Try.prog 49 #[.slice A n c, .string name] w fun e w' => e = .returned (.int .i64 (idxV (makerO out name))) ∧ Below w.heap.size w w' := by
  have hba : Below w.heap.size w (w.alloc (.cells #[.string name] 9)) := (Below.refl _ _).alloc (Nat.le_refl _) _
  have HC := Lib.hid (indexG_any w.heap.size A n c out R name _ (h.belowS hba) hn ht (by rw [World.cell?_alloc_at _ _ _ _ rfl]; rfl) (by simp))
  have HB := Lib.hid hba
  generalize hh : idxV (makerO out name) = bb at *
  clear hba h hh
  go_enter Try.func49, Try.ntmps49
  go_wp2_with fail
  refine HC.out.mono ?_
  rintro e w1 ⟨rfl, hb1⟩
  have HB1 := Lib.hid (HB.out.trans (hb1.mono HB.out.size))
  clear hb1
  go_wp2
  go_ret
  exact ⟨rfl, HB1.out⟩

end Go.Proofs.Ytlkpbpecgdphaaa
namespace Go.Proofs.Ytlkpbpecgdphaaa
open Go.RowKit

theorem all_next {α : Type} {p : α → Bool} {l : List α} {k : Nat} {x : α} (h : l.all p = (l.drop k).all p) (hx : l[k]? = some x) : (p x = true → l.all p = (l.drop (k + 1)).all p) ∧ (p x = false → l.all p = false) := by
  have hk : k < l.length := (List.getElem?_eq_some_iff.1 hx).1
  have hd : l.drop k = x :: l.drop (k + 1) := by
    rw [List.drop_eq_getElem_cons hk]
    congr 1
    exact (List.getElem?_eq_some_iff.1 hx).2
  rw [hd, List.all_cons] at h
  exact ⟨fun e => by rw [h, e, Bool.true_and], fun e => by rw [h, e, Bool.false_and]⟩
theorem all_end {α : Type} {p : α → Bool} {l : List α} {k : Nat} (h : l.all p = (l.drop k).all p) (hk : l.length ≤ k) : l.all p = true := by
  rw [List.drop_of_length_le hk] at h
  simpa using h
theorem onceB_size (s y : ByteArray) : (onceB s y).size ≤ s.size + y.size := by
  unfold onceB
  split
  · rename_i h
    have := cut_short h
    rw [ba_size]
    simp at this ⊢
    omega
  · omega
theorem stemR_size (p n : ByteArray) : (stemR p n).1.size ≤ n.size := by
  unfold stemR
  split
  · rw [ByteArray.size_extract]; omega
  · exact Nat.zero_le _
theorem fillR_size {nd : List ByteArray} {stem x : ByteArray} (h : ∀ y ∈ nd, y.size ≤ 1000) (hs : stem.size ≤ 1000) (hx : x ∈ fillR nd stem) : x.size ≤ 2000 := by
  unfold fillR at hx
  obtain ⟨y, hy, rfl⟩ := List.mem_map.1 hx
  have := onceB_size y stem
  have := h y hy
  omega
def GftRel (w : World) (f : List ByteArray) (p : ByteArray → Bool) (n : Nat) (i : Value) (wr : World) : Prop := ∃ k : Nat, k ≤ n ∧ i = .int .i64 k ∧ f.all p = (f.drop k).all p ∧ Below w.heap.size w wr
/-- How much a description holds. -/
structure Lim (m : Mk) : Prop where
  rules : m.rules.length ≤ 1000
  ne : ∀ r ∈ m.rules, r.1 ≠ []
  tgs : ∀ r ∈ m.rules, r.1.length ≤ 10
  nds : ∀ r ∈ m.rules, r.2.1.length ≤ 10
  cms : ∀ r ∈ m.rules, r.2.2.length ≤ 10
  tsz : ∀ r ∈ m.rules, ∀ x ∈ r.1, x.size ≤ 1000
  nsz : ∀ r ∈ m.rules, ∀ x ∈ r.2.1, x.size ≤ 1000
  csz : ∀ r ∈ m.rules, ∀ x ∈ r.2.2, x.size ≤ 1000
  phony : m.phony.length ≤ 1000

end Go.Proofs.Ytlkpbpecgdphaaa
namespace Go.Proofs.Ytlkpbpecgdphaaa
open Go.RowKit

/-- What the literal leaves as stem. -/
def stemF (rules : List Ru) (l : List F) (name : ByteArray) (r : Ru) : ByteArray := if fitsB rules l name r = true then (stemR (headT r.1) name).1 else ⟨#[]⟩

def IpRel (wE w : World) (Z : Nat) (rules : List Ru) (p : Ru → Bool) (n : Nat) (i : Value) (wr : World) : Prop :=
  ∃ (k : Nat) (s : ByteArray), k ≤ n ∧ i = .int .i64 k ∧ rules.findIdx? p = ((rules.drop k).findIdx? p).map (· + k) ∧ Upd w wr (One Z) ∧ Below wE.heap.size wE wr ∧ Blk wr Z tStr #[.string s]
end Go.Proofs.Ytlkpbpecgdphaaa
namespace Go.Proofs.Ytlkpbpecgdphaaa
open Go.RowKit

/-- Where Check stands: what was there stands; the description reads as it did; so does the box. -/
structure CkSt (w : World) (m : Mk) (vv vr vp : Value) (R : List Row3) (wr : World) : Prop where
  below : Below w.heap.size w wr
  rd : MkRd wr m vv vr vp R
  c1 : wr.cell? ⟨w.heap.size, 1, none⟩ = some vr
  c2 : wr.cell? ⟨w.heap.size, 2, none⟩ = some vp
section
variable {w wr wr' : World} {m : Mk} {vv vr vp : Value} {R : List Row3}
theorem CkSt.next (h : CkSt w m vv vr vp R wr) (hb : Below wr.heap.size wr wr') : CkSt w m vv vr vp R wr' :=
  ⟨h.below.trans (hb.mono h.below.size), h.rd.belowS hb, (hb.cell (World.block_lt_of_cell? _ _ h.c1)).trans h.c1, (hb.cell (World.block_lt_of_cell? _ _ h.c2)).trans h.c2⟩
theorem CkSt.turn (h : CkSt w m vv vr vp R wr) {bm : Nat} (hb : ∃ es c, wr.heap[bm]? = some (.map es c)) (hB : w.heap.size ≤ bm) (hg : wr.grownBy wr' (some bm)) : CkSt w m vv vr vp R wr' :=
  ⟨h.below.grown hg h.below.size (fun k hk => by injection hk with hk; omega), h.rd.past_map hb hg, cell_past_map hb hg h.c1, cell_past_map hb hg h.c2⟩
end
structure Ck1 (w : World) (m : Mk) (vv vr vp : Value) (R : List Row3) (bp : Nat) (i : Value) (wr : World) : Prop where
  ex : ∃ k : Nat, k ≤ m.phony.length ∧ i = .int .i64 k ∧ CkSt w m vv vr vp R wr ∧ SetOk wr bp k (m.phony.take k)
structure Ck2 (w : World) (m : Mk) (vv vr vp : Value) (R : List Row3) (bp bd : Nat) (i : Value) (wr : World) : Prop where
  ex : ∃ (k n : Nat) (made : List ByteArray), k ≤ R.length ∧ i = .int .i64 k ∧ n ≤ 1000 * k ∧ checkGo m.phony [] m.rules = checkGo m.phony made (m.rules.drop k) ∧ CkSt w m vv vr vp R wr ∧ SetOk wr bp m.phony.length m.phony ∧ SetOk wr bd n made
structure Ck3 (w : World) (m : Mk) (vv vr vp : Value) (R : List Row3) (bp bd b8 n : Nat) (made T : List ByteArray) (vt vn vc : Value) (i : Value) (wr : World) : Prop where
  ex : ∃ k : Nat, k ≤ T.length ∧ i = .int .i64 k ∧ CkSt w m vv vr vp R wr ∧ SetOk wr bp m.phony.length m.phony ∧ SetOk wr bd (n + k) (made ++ T.take k)
structure Ck4 (w : World) (m : Mk) (vv vr vp : Value) (R : List Row3) (bd n : Nat) (made : List ByteArray) (i : Value) : Prop where
  ex : ∃ k : Nat, k ≤ m.phony.length ∧ i = .int .i64 k ∧ ∀ j x, j < k → m.phony[j]? = some x → inT made x = true
theorem take_snoc {α : Type} {l : List α} {k : Nat} {x : α} (h : l[k]? = some x) : l.take (k + 1) = l.take k ++ [x] := by
  have hl := (List.getElem?_eq_some_iff.1 h).1
  rw [List.take_succ_eq_append_getElem hl]
  rw [(List.getElem?_eq_some_iff.1 h).2]
theorem drop_of {α : Type} {l : List α} {k : Nat} {x : α} (h : l[k]? = some x) : l.drop k = x :: l.drop (k + 1) := by
  have hl := (List.getElem?_eq_some_iff.1 h).1
  rw [List.drop_eq_getElem_cons hl, (List.getElem?_eq_some_iff.1 h).2]
def ckN (b : Bool) : Nat := if b = true then 0 else 3
theorem check_step {phony made : List ByteArray} {u : Ru} {l : List Ru} (h : agreesR phony made u = true) : checkGo phony made (u :: l) = checkGo phony (made ++ u.1) l := by rw [checkGo, if_pos h]
theorem check_stop {phony made : List ByteArray} {u : Ru} {l : List Ru} (h : agreesR phony made u = false) : (checkGo phony made (u :: l)).1 = false := by rw [checkGo, if_neg (by rw [h]; simp)]
theorem checkR_no {m : Mk} (h : (checkGo m.phony [] m.rules).1 = false) : checkR m = false := by unfold checkR; rw [h]; rfl
theorem checkR_bad {m : Mk} {made : List ByteArray} (h : checkGo m.phony [] m.rules = (true, made)) {k : Nat} {x : ByteArray} (hx : m.phony[k]? = some x) (hn : inT made x = false) : checkR m = false := by
  unfold checkR
  rw [h]
  have : (m.phony.all fun n => inT made n) = false := by
    rw [List.all_eq_false]
    exact ⟨x, List.mem_of_getElem? hx, by rw [hn]; simp⟩
  simp [this]
theorem checkR_ok {m : Mk} {made : List ByteArray} (h : checkGo m.phony [] m.rules = (true, made)) (hn : ∀ j x, j < m.phony.length → m.phony[j]? = some x → inT made x = true) : checkR m = true := by
  unfold checkR
  rw [h]
  have : (m.phony.all fun n => inT made n) = true := by
    rw [List.all_eq_true]
    intro x hx
    obtain ⟨j, hj, e⟩ := List.mem_iff_getElem.1 hx
    exact hn j x hj (by rw [List.getElem?_eq_getElem hj, e])
  simp [this]

end Go.Proofs.Ytlkpbpecgdphaaa
namespace Go.Proofs.Ytlkpbpecgdphaaa
open Go.RowKit

/-- A description whose rows lie from block B on. -/
structure MkOw (w : World) (B : Nat) (m : Mk) (vv vr vp : Value) (R : List Row3) : Prop where
  vars : w.ownsRow B 84 2 vv m.vars.length (fcells m.vars)
  rules : w.ownsRow B 81 3 vr R.length (rcells R)
  len : R.length = m.rules.length
  each : ∀ (i : Nat) (x : Row3) (u : Ru), R[i]? = some x → m.rules[i]? = some u → Own1 w B x.1 u.1 ∧ Own1 w B x.2.1 u.2.1 ∧ Own1 w B x.2.2 u.2.2
  phony : Own1 w B vp m.phony
section
variable {w w' : World} {B g : Nat} {m : Mk} {vv vr vp : Value} {R : List Row3}
theorem MkOk.ow (h : MkOk w B g m vv vr vp R) {B' : Nat} (hB : B' ≤ B) : MkOw w B' m vv vr vp R :=
  ⟨h.vars.mono hB, h.rules.mono hB, h.len, fun i x u hx hu => by obtain ⟨a, b, c⟩ := h.each i x u hx hu; exact ⟨a.mono hB, b.mono hB, c.mono hB⟩, h.phony.mono hB⟩
theorem MkOw.rd (h : MkOw w B m vv vr vp R) : MkRd w m vv vr vp R :=
  ⟨RdF.of_own h.vars, RdR.of_own h.rules, h.len, fun i x u hx hu => by obtain ⟨a, b, c⟩ := h.each i x u hx hu; exact ⟨Sl.own a, Sl.own b, Sl.own c⟩, Sl.own h.phony⟩
theorem own_kept_low {e : TypeId} {s : Nat} {v : Value} {n : Nat} {xs : List Value} {row : Option Nat} (h : w.ownsRow B e s v n xs) (hg : w.grownBy w' row) (hr : ∀ k, row = some k → k < B) : w'.ownsRow B e s v n xs :=
  h.kept hg (by
    cases hv : v.ownBlock with
    | none => exact .inl rfl
    | some k => exact .inr (fun e => by have h1 := (h.lt k hv).1; have h2 := hr k e.symm; omega))
/-- It stands where nothing from B on has turned. -/
theorem MkOw.kept {row : Option Nat} (h : MkOw w B m vv vr vp R) (hg : w.grownBy w' row) (hr : ∀ k, row = some k → k < B) : MkOw w' B m vv vr vp R :=
  ⟨own_kept_low h.vars hg hr, own_kept_low h.rules hg hr, h.len, fun i x u hx hu => by obtain ⟨a, b, c⟩ := h.each i x u hx hu; exact ⟨own_kept_low a hg hr, own_kept_low b hg hr, own_kept_low c hg hr⟩, own_kept_low h.phony hg hr⟩
theorem MkOw.below (h : MkOw w B m vv vr vp R) (hb : Below w.heap.size w w') : MkOw w' B m vv vr vp R := h.kept (grown_of_below hb) (fun k e => by cases e)
end
theorem mkOw0 (w : World) (B : Nat) : MkOw w B mk0 (.slice none 0 0) (.slice none 0 0) (.slice none 0 0) [] := ⟨World.ownsRow_nil _ _ _ _, World.ownsRow_nil _ _ _ _, rfl, fun i x u hx => by simp at hx, World.ownsRow_nil _ _ _ _⟩
structure PaRel (s : ByteArray) (B g b0 : Nat) (w2 : World) (i : Value) (wr : World) : Prop where
  ex : ∃ (k : Nat) (m : Mk), k ≤ (lines s).length ∧ i = .int .i64 k ∧ linesR mk0 (lines s) = linesR m ((lines s).drop k) ∧ Sane m k ∧ MkIn wr B g m ∧ Fr g B w2 wr
theorem Fr.rdS {g B : Nat} {w w' : World} (h : Fr g B w w') {b n c : Nat} {l : List ByteArray} (hr : RdS w w.heap.size (some ⟨b, 0, none⟩) n c l) (hb : b < B) (hg : b ≠ g) : RdS w' w'.heap.size (some ⟨b, 0, none⟩) n c l :=
  ⟨hr.1, hr.2.1, hr.2.2.1, fun hn => by
    obtain ⟨b1, off, e, hbb, hc⟩ := hr.2.2.2 hn
    injection e with e
    injection e with e1 e2
    subst e1
    exact ⟨b, off, by rw [e2], Nat.lt_of_lt_of_le hbb h.size, fun j u hu => (h.cell (p := ⟨b, off + j, none⟩) hb hg).trans (hc j u hu)⟩⟩
theorem lines_size {s x : ByteArray} (h : x ∈ lines s) : x.size ≤ s.size := by
  unfold lines at h
  obtain ⟨l, hl, rfl⟩ := List.mem_map.1 h
  have key : ∀ (a : List UInt8) (l : List UInt8), l ∈ spn a → l.length ≤ a.length := by
    intro a
    induction a with
    | nil => intro l hl; simp [spn] at hl; subst hl; simp
    | cons b a ih =>
      intro l hl
      unfold spn at hl
      split at hl
      · rcases List.mem_cons.1 hl with rfl | hl
        · simp
        · have := ih l hl; simp; omega
      · split at hl
        · rename_i e; exact absurd e (spn_ne a)
        · rename_i h t e
          rcases List.mem_cons.1 hl with rfl | hl
          · have := ih h (by rw [e]; simp); simp; omega
          · have := ih l (by rw [e]; simp [hl]); simp; omega
  have := key _ l hl
  have h1 : (⟨l.toArray⟩ : ByteArray).size = l.length := ba_size l
  have h2 : s.data.toList.length = s.size := by simp
  rw [h1]
  omega
theorem lines_len (s : ByteArray) : (lines s).length ≤ s.size + 1 := by
  have h1 := spn_len s.data.toList
  have : (lines s).length = (spn s.data.toList).length := by simp [lines]
  simp at h1
  omega

theorem set3 {w : World} {b : Nat} {t : TypeId} {a0 a1 a2 : Value} (hb : w.heap[b]? = some (.cells #[a0, a1, a2] t (0, 0))) (u0 u1 u2 : Value) :
    (((w.setCell ⟨b, 0, none⟩ u0).setCell ⟨b, 1, none⟩ u1).setCell ⟨b, 2, none⟩ u2).heap[b]? = some (.cells #[u0, u1, u2] t (0, 0)) ∧ w.grownBy (((w.setCell ⟨b, 0, none⟩ u0).setCell ⟨b, 1, none⟩ u1).setCell ⟨b, 2, none⟩ u2) (some b) :=
  ⟨(heap_set3 (heap_set3 (heap_set3 hb u0).1 u1).2.1 u2).2.2, grown_trans (grown_trans (grown_set _ _ _ _) (grown_set _ _ _ _)) (grown_set _ _ _ _)⟩
theorem Fr.to_below {g B : Nat} {w w3 wr : World} (h : Fr g B w3 wr) (hb : Below w.heap.size w w3) (hB : w.heap.size ≤ B) (hg : w.heap.size ≤ g) : Below w.heap.size w wr :=
  ⟨h.os.trans hb.os, h.tape.trans hb.tape, h.output.trans hb.output, Nat.le_trans hb.size h.size, fun k hk => (h.block k (by omega) (by omega)).trans (hb.block k hk)⟩
end Go.Proofs.Ytlkpbpecgdphaaa
