/-
  WALKS: (*graph.walk).group's function literal (it writes the stem), slices.IndexFunc over rules with it.
-/
import Derived.Test.YtlkpbpecgdphaaaGreatDoorGq
import Derived.Test.YtlkpbpecgdphaaaGreatDoorGh
import Derived.Test.YtlkpbpecgdphaaaGreatDoorName
namespace Go.Proofs.YtlkpbpecgdphaaaGreatDoor
open Go.RowKit

theorem all_next {α : Type} {p : α → Bool} {l : List α} {k : Nat} {x : α} (h : l.all p = (l.drop k).all p) (hx : l[k]? = some x) : (p x = true → l.all p = (l.drop (k + 1)).all p) ∧ (p x = false → l.all p = false) := by
  have hk : k < l.length := (List.getElem?_eq_some_iff.1 hx).1
  have hd : l.drop k = x :: l.drop (k + 1) := by
    rw [List.drop_eq_getElem_cons hk]
    congr 1
    exact (List.getElem?_eq_some_iff.1 hx).2
  rw [hd, List.all_cons] at h
  exact ⟨fun e => by rw [h, e, Bool.true_and], fun e => by rw [h, e, Bool.false_and]⟩
theorem all_end {α : Type} {p : α → Bool} {l : List α} {k : Nat} (h : l.all p = (l.drop k).all p) (hk : l.length ≤ k) : l.all p = true := by
  rw [List.drop_of_length_le hk] at h
  simpa using h
theorem onceB_size (s y : ByteArray) : (onceB s y).size ≤ s.size + y.size := by
  unfold onceB
  split
  · rename_i h
    have := cut_short h
    rw [ba_size]
    simp at this ⊢
    omega
  · omega
theorem stemR_size (p n : ByteArray) : (stemR p n).1.size ≤ n.size := by
  unfold stemR
  split
  · rw [ByteArray.size_extract]; omega
  · exact Nat.zero_le _
theorem fillR_size {nd : List ByteArray} {stem x : ByteArray} (h : ∀ y ∈ nd, y.size ≤ 1000) (hs : stem.size ≤ 1000) (hx : x ∈ fillR nd stem) : x.size ≤ 2000 := by
  unfold fillR at hx
  obtain ⟨y, hy, rfl⟩ := List.mem_map.1 hx
  have := onceB_size y stem
  have := h y hy
  omega
def FtRel (w : World) (f : List ByteArray) (p : ByteArray → Bool) (n : Nat) (i : Value) (wr : World) : Prop := ∃ k : Nat, k ≤ n ∧ i = .int .i64 k ∧ f.all p = (f.drop k).all p ∧ Below w.heap.size w wr
/-- How much a description holds. -/
structure Lim (m : Mk) : Prop where
  rules : m.rules.length ≤ 1000
  ne : ∀ r ∈ m.rules, r.1 ≠ []
  tgs : ∀ r ∈ m.rules, r.1.length ≤ 10
  nds : ∀ r ∈ m.rules, r.2.1.length ≤ 10
  cms : ∀ r ∈ m.rules, r.2.2.length ≤ 10
  tsz : ∀ r ∈ m.rules, ∀ x ∈ r.1, x.size ≤ 1000
  nsz : ∀ r ∈ m.rules, ∀ x ∈ r.2.1, x.size ≤ 1000
  csz : ∀ r ∈ m.rules, ∀ x ∈ r.2.2, x.size ≤ 1000
  phony : m.phony.length ≤ 1000

set_option maxRecDepth 100000 in
set_option maxHeartbeats 4000000 in
theorem fit_any (pw : Nat) (m : Mk) (l : List F) (vr vp vf vm vg : Value) (R : List Row3) (r : Ru) (x1 x2 x3 : Value) (name : ByteArray) (w : World) (h : WkRd w pw m l vr vp vf vm vg R) (hr : r ∈ m.rules) (h1 : Sl w x1 r.1) (h2 : Sl w x2 r.2.1)
    (hL : Lim m) (hs : Rises l) (hl : l.length ≤ 1000000) (hn : name.size ≤ 1000) (hm : MaxOk w) :
    Calls Tryz.prog 103 #[ptr pw, .agg #[x1, x2, x3], .string name] w fun e w' =>
      e = .returned (.tuple #[.string (if fitsB m.rules l name r = true then (stemR (headT r.1) name).1 else ⟨#[]⟩), .bool (fitsB m.rules l name r)]) ∧ Below w.heap.size w w' := by
  have hne := hL.ne r hr
  obtain ⟨t0, ts, hts⟩ : ∃ t ts, r.1 = t :: ts := by
    cases hh : r.1 with
    | nil => exact absurd hh hne
    | cons t ts => exact ⟨t, ts, rfl⟩
  have hhd : headT r.1 = t0 := by rw [hts]; rfl
  have ht0 : r.1[0]? = some t0 := by rw [hts]; rfl
  have htz : t0.size ≤ 1000 := hL.tsz r hr t0 (by rw [hts]; simp)
  have hlt1 : 0 < r.1.length := by rw [hts]; simp
  obtain ⟨b, hb⟩ : ∃ b, b = fitsB m.rules l name r := ⟨_, rfl⟩
  rw [← hb]
  unfold fitsB at hb
  rw [hhd] at hb ⊢
  have hss := stemR_size t0 name
  obtain ⟨⟨st, ok⟩, hst⟩ : ∃ q, q = stemR t0 name := ⟨_, rfl⟩
  rw [← hst] at hb hss ⊢
  have HST := Lib.hid hst
  clear hst
  dsimp only at hb hss ⊢
  have hb0 : Below w.heap.size w (w.alloc (.cells #[x1, x2, x3] tRu)) := (Below.refl _ _).alloc (Nat.le_refl _) _
  have p0 := Blk.new w tRu #[x1, x2, x3]
  have hm0 := hm.below hb0
  obtain ⟨A1, c1, rfl, q1⟩ := h1
  obtain ⟨A2, c2, rfl, q2⟩ := h2
  have hq1 := q1.belowS hb0
  obtain ⟨b', off, rfl, _, hc0⟩ := hq1.at_ ht0
  have HB := Lib.hid hb
  have HB0 := Lib.hid hb0
  have P0 := Lib.hid p0
  have HM := Lib.hid hm0
  have HW := Lib.hid (h.belowS hb0)
  have Q2 := Lib.hid (q2.belowS hb0)
  have HLM := Lib.hid hL
  have HRS := Lib.hid hs
  have SN := Lib.hid (hL.nsz r hr)
  have LN := hL.nds r hr
  have LT := hL.tgs r hr
  rw [Nat.add_zero] at hc0
  have g0 : (w.alloc (.cells #[.slice (some ⟨b', off, none⟩) r.1.length c1, .slice A2 r.2.1.length c2, x3] tRu)).cell? ⟨w.heap.size, 0, none⟩ = some (.slice (some ⟨b', off, none⟩) r.1.length c1) := p0.cell 0
  have g1 : (w.alloc (.cells #[.slice (some ⟨b', off, none⟩) r.1.length c1, .slice A2 r.2.1.length c2, x3] tRu)).cell? ⟨w.heap.size, 1, none⟩ = some (.slice A2 r.2.1.length c2) := p0.cell 1
  have hz1 : ((r.1.length : Int) == 0) = false := by rw [beq_eq_false_iff_ne]; omega
  have hz0 : (0 : Int) < (r.1.length : Int) := by omega
  clear h hr hL hs hm hne hhd ht0 q1 q2 hq1 hb hb0 p0 hm0 hts
  generalize hN : r.2.1 = nd at *
  generalize r.1.length = n1 at *
  generalize hnn : nd.length = n2 at *
  have HNN := Lib.hid hnn
  clear hnn hN
  go_enter Tryz.func103, Tryz.ntmps103
  go_wp2_with fail
  generalize w.alloc (.cells #[.slice (some ⟨b', off, none⟩) n1 c1, .slice A2 n2 c2, x3] tRu) = w0 at *
  refine (stem_any t0 name w0 (by omega) (by omega) HM.out).mono ?_
  rintro e w1 ⟨rfl, hb1⟩
  rw [← HST.out]
  have HB1 := Lib.hid hb1
  have G1 : w1.cell? ⟨w.heap.size, 1, none⟩ = some (.slice A2 n2 c2) := (hb1.cell (p := ⟨w.heap.size, 1, none⟩) P0.out.lt).trans g1
  have Q21 := Lib.hid (Q2.out.belowS hb1)
  have HM1 := Lib.hid (HM.out.below hb1)
  clear hb1
  dsimp only
  cases ok with
  | false =>
    have hb := HB.out
    rw [Bool.false_and] at hb
    subst hb
    clear HB
    go_wp2
    go_ret2
    exact ⟨rfl, HB0.out.trans (HB1.out.mono HB0.out.size)⟩
  | true =>
    have hb := HB.out
    rw [Bool.true_and] at hb
    have HB := Lib.hid hb
    clear hb
    go_wp2_with fail
    refine (filled_any A2 n2 c2 nd st w1 Q21.out (by omega) SN.out (by omega) HM1.out).mono ?_
    rintro e w2 ⟨v2, rfl, own2, hb2⟩
    obtain ⟨A3, c3, rfl, hr3⟩ := RdS.of_own own2
    have HB2 := Lib.hid (HB1.out.trans (hb2.mono HB1.out.size))
    have HR3 := Lib.hid hr3
    have SF := Lib.hid (fun x hx => fillR_size (x := x) (stem := st) SN.out (by omega) hx)
    have HFL := Lib.hid (show (fillR nd st).length = n2 by unfold fillR; rw [List.length_map]; exact HNN.out)
    obtain ⟨p, hp⟩ : ∃ p : ByteArray → Bool, p = fun n => has l n || (explO m.rules n).isSome := ⟨_, rfl⟩
    have HP := Lib.hid (show ∀ n, p n = (has l n || (explO m.rules n).isSome) from fun n => by rw [hp])
    have hb := HB.out
    rw [show (fillR nd st).all (fun n => has l n || (explO m.rules n).isSome) = (fillR nd st).all p by rw [hp]] at hb
    have HB := Lib.hid hb
    clear own2 hb2 hr3 hp hb
    generalize fillR nd st = fl at *
    have hW2 : w0.heap.size ≤ w2.heap.size := HB2.out.size
    go_wp2
    go_loopw [34] (fun i wr => FtRel w2 fl p n2 i wr) (fun i _ => n2 - (intOf i).toNat)
    case atStart => exact ⟨0, Nat.zero_le _, rfl, by simp, Below.refl _ _⟩
    case round =>
      obtain ⟨k, hk, rfl, hno, hbw⟩ := hrel
      have HN := Lib.hid hno
      have hB : Below w0.heap.size w0 wr := HB2.out.trans (hbw.mono hW2)
      have HBW := Lib.hid hbw
      have HBB := Lib.hid hB
      clear hno hbw hB
      by_cases hlt : k < n2
      · have hkz : (k : Int) < (n2 : Int) := by omega
        obtain ⟨x, hx⟩ : ∃ x, fl[k]? = some x := ⟨_, List.getElem?_eq_getElem (by rw [HFL.out]; exact hlt)⟩
        obtain ⟨b3, o3, rfl, _, hc3⟩ := (HR3.out.belowS HBW.out).at_ hx
        have hxs : x.size ≤ 2000 := SF.out x (List.mem_of_getElem? hx)
        obtain ⟨q1, q2⟩ := all_next HN.out hx
        have Q1 := Lib.hid q1
        have Q2' := Lib.hid q2
        have hwk := HW.out.belowS HBB.out
        obtain ⟨Af, cf, rfl, hrf⟩ := hwk.files
        have e2 : wr.cell? ⟨pw, 2, none⟩ = some (.slice Af l.length cf) := hwk.blk.cell 2
        have HRF := Lib.hid hrf
        have HWK := Lib.hid hwk
        clear q1 q2 hx hwk hrf
        go_wp2_with fail
        refine (get_any Af l.length cf l x wr HRF.out HRS.out (by omega)).mono ?_
        rintro e w3 ⟨rfl, hb3⟩
        have HB3 := Lib.hid (HBW.out.trans (hb3.mono HBW.out.size))
        have HWK3 := Lib.hid (HWK.out.belowS hb3)
        clear hb3
        cases hh : has l x with
        | true =>
          have HF := Lib.hid (Q1.out (by rw [HP.out, hh]; rfl))
          clear hh Q1 Q2'
          go_wp2
          go_roundw
          case rel => exact ⟨k + 1, by omega, by go_num, HF.out, HB3.out⟩
          case measure => simp [intOf]; omega
        | false =>
          go_wp2_with fail
          refine (ruleFor_any pw m l vr vp _ vm vg R x w3 HWK3.out HLM.out.rules (fun r hr => Nat.le_trans (HLM.out.tgs r hr) (by omega))).mono ?_
          rintro e w4 ⟨rfl, hb4⟩
          have HB4 := Lib.hid (HB3.out.trans (hb4.mono HB3.out.size))
          clear hb4
          cases he : explO m.rules x with
          | some i =>
            have HF := Lib.hid (Q1.out (by rw [HP.out, hh, he]; rfl))
            have hi0 : decide (idxV (some i) < 0) = false := decide_eq_false (by show ¬ ((i : Int) < 0); omega)
            clear hh he Q1 Q2'
            go_wp2
            go_roundw
            case rel => exact ⟨k + 1, by omega, by go_num, HF.out, HB4.out⟩
            case measure => simp [intOf]; omega
          | none =>
            have hF := HB.out.trans (Q2'.out (by rw [HP.out, hh, he]; rfl))
            subst hF
            clear hh he Q1 Q2' HB
            have hi0 : idxV none = -1 := rfl
            rw [hi0]
            go_wp2
            go_ret2
            exact ⟨rfl, HB0.out.trans ((HB2.out.trans (HB4.out.mono hW2)).mono HB0.out.size)⟩
      · obtain rfl : k = n2 := by omega
        have hF := HB.out.trans (all_end HN.out (by rw [HFL.out]; exact Nat.le_refl _))
        subst hF
        clear HB
        go_wp2
        go_ret2
        exact ⟨rfl, HB0.out.trans (HBB.out.mono HB0.out.size)⟩
end Go.Proofs.YtlkpbpecgdphaaaGreatDoor
namespace Go.Proofs.YtlkpbpecgdphaaaGreatDoor
open Go.RowKit

abbrev tPw : TypeId := 119
/-- group's function literal, over the boxes of the walk, the name, the stem. -/
abbrev grF (X Y Z : Nat) : Value := .func (.func 102) #[] #[ptr X, ptr Y, ptr Z]
/-- What the literal leaves as stem. -/
def stemF (rules : List Ru) (l : List F) (name : ByteArray) (r : Ru) : ByteArray := if fitsB rules l name r = true then (stemR (headT r.1) name).1 else ⟨#[]⟩
set_option maxRecDepth 100000 in
set_option maxHeartbeats 2000000 in
theorem group1_any (pw X Y Z : Nat) (m : Mk) (l : List F) (vr vp vf vm vg : Value) (R : List Row3) (r : Ru) (x1 x2 x3 : Value) (name s0 : ByteArray) (w : World) (h : WkRd w pw m l vr vp vf vm vg R) (hr : r ∈ m.rules) (h1 : Sl w x1 r.1) (h2 : Sl w x2 r.2.1)
    (hL : Lim m) (hs : Rises l) (hl : l.length ≤ 1000000) (hn : name.size ≤ 1000) (hm : MaxOk w) (hX : Blk w X tPw #[ptr pw]) (hY : Blk w Y tStr #[.string name]) (hZ : Blk w Z tStr #[.string s0]) :
    Calls Tryz.prog 102 #[.agg #[x1, x2, x3], ptr X, ptr Y, ptr Z] w fun e w' =>
      e = .returned (.bool (fitsB m.rules l name r)) ∧ Upd w w' (One Z) ∧ Blk w' Z tStr #[.string (stemF m.rules l name r)] := by
  have hb0 : Below w.heap.size w (w.alloc (.cells #[x1, x2, x3] tRu)) := (Below.refl _ _).alloc (Nat.le_refl _) _
  have p0 := Blk.new w tRu #[x1, x2, x3]
  have hc := fit_any pw m l vr vp vf vm vg R r x1 x2 x3 name _ (h.belowS hb0) hr (h1.belowS hb0) (h2.belowS hb0) hL hs hl hn (hm.below hb0)
  rw [show (if fitsB m.rules l name r = true then (stemR (headT r.1) name).1 else ⟨#[]⟩) = stemF m.rules l name r from rfl] at hc
  have HC := Lib.hid hc
  have HB0 := Lib.hid hb0
  have HX := Lib.hid (hX.alloc (.cells #[x1, x2, x3] tRu))
  have HY := Lib.hid (hY.alloc (.cells #[x1, x2, x3] tRu))
  have HZ := Lib.hid (hZ.alloc (.cells #[x1, x2, x3] tRu))
  have cx : (w.alloc (.cells #[x1, x2, x3] tRu)).cell? ⟨X, 0, none⟩ = some (ptr pw) := HX.out.cell 0
  have cy : (w.alloc (.cells #[x1, x2, x3] tRu)).cell? ⟨Y, 0, none⟩ = some (.string name) := HY.out.cell 0
  have c0 : (w.alloc (.cells #[x1, x2, x3] tRu)).cell? ⟨w.heap.size, 0, none⟩ = some x1 := p0.cell 0
  have c1 : (w.alloc (.cells #[x1, x2, x3] tRu)).cell? ⟨w.heap.size, 1, none⟩ = some x2 := p0.cell 1
  have c2 : (w.alloc (.cells #[x1, x2, x3] tRu)).cell? ⟨w.heap.size, 2, none⟩ = some x3 := p0.cell 2
  have hZl : Z < (w.alloc (.cells #[x1, x2, x3] tRu)).heap.size := HZ.out.lt
  clear h hr h1 h2 hL hs hl hm hX hY hZ hb0 p0 hc
  generalize fitsB m.rules l name r = b at *
  generalize stemF m.rules l name r = st at *
  go_enter Tryz.func102, Tryz.ntmps102
  go_wp2_with fail
  generalize w.alloc (.cells #[x1, x2, x3] tRu) = w0 at *
  refine HC.out.mono ?_
  rintro e w1 ⟨rfl, hb1⟩
  have hz1 : Blk w1 Z tStr #[.string s0] := (hb1.block _ hZl).trans HZ.out
  have z0 : w1.cell? ⟨Z, 0, none⟩ = some (.string s0) := hz1.cell 0
  have zf := hz1.free 0
  have HZ1 := Lib.hid (hz1.set 0 (.string st))
  have HU := Lib.hid (((Upd.of_below HB0.out (One Z)).trans (Upd.of_below hb1 (One Z)) (fun _ _ h => h)).setOne 0 (.string st))
  clear hb1 hz1
  go_wp2
  go_ret
  exact ⟨rfl, HU.out, HZ1.out⟩

def IpRel (wE w : World) (Z : Nat) (rules : List Ru) (p : Ru → Bool) (n : Nat) (i : Value) (wr : World) : Prop :=
  ∃ (k : Nat) (s : ByteArray), k ≤ n ∧ i = .int .i64 k ∧ rules.findIdx? p = ((rules.drop k).findIdx? p).map (· + k) ∧ Upd w wr (One Z) ∧ Below wE.heap.size wE wr ∧ Blk wr Z tStr #[.string s]
set_option maxRecDepth 100000 in
set_option maxHeartbeats 4000000 in
theorem indexP_any (pw X Y Z : Nat) (m : Mk) (l : List F) (vr vp vf vm vg : Value) (R : List Row3) (A : Option Addr) (c : Nat) (name s0 : ByteArray) (wE w : World) (h : WkRd wE pw m l vr vp vf vm vg R) (hA : vr = .slice A R.length c) (hb : Below wE.heap.size wE w)
    (hL : Lim m) (hs : Rises l) (hl : l.length ≤ 1000000) (hn : name.size ≤ 1000) (hm : MaxOk wE) (hX : Blk w X tPw #[ptr pw]) (hY : Blk w Y tStr #[.string name]) (hZ : Blk w Z tStr #[.string s0]) (zX : X ≠ Z) (zY : Y ≠ Z) (zE : wE.heap.size ≤ Z) :
    Calls Tryz.prog 101 #[.slice A R.length c, grF X Y Z] w fun e w' =>
      e = .returned (.int .i64 (idxV (m.rules.findIdx? (fitsB m.rules l name)))) ∧ Upd w w' (One Z) ∧ ∃ s, Blk w' Z tStr #[.string s] ∧ ∀ i r, m.rules.findIdx? (fitsB m.rules l name) = some i → m.rules[i]? = some r → s = (stemR (headT r.1) name).1 := by
  obtain ⟨q, hq⟩ : ∃ q, q = m.rules.findIdx? (fitsB m.rules l name) := ⟨_, rfl⟩
  rw [← hq]
  obtain ⟨n, hnn⟩ : ∃ n, n = R.length := ⟨_, rfl⟩
  have hnl : n ≤ 1000 := by rw [hnn, h.len]; exact hL.rules
  rw [← hnn]
  subst hA
  have HH := Lib.hid h
  have HL := Lib.hid hL
  have HRS := Lib.hid hs
  have HM := Lib.hid hm
  have HX := Lib.hid hX
  have HY := Lib.hid hY
  have HZ := Lib.hid hZ
  have HQ := Lib.hid hq
  have HRL := Lib.hid hnn
  have HBE := Lib.hid hb
  have HLEN := Lib.hid h.len
  clear h hL hs hm hX hY hZ hq hnn hb
  go_enter Tryz.func101, Tryz.ntmps101
  go_wp2
  go_loopw [8] (fun i wr => IpRel wE w Z m.rules (fitsB m.rules l name) n i wr) (fun i _ => n - (intOf i).toNat)
  case atStart => exact ⟨0, s0, Nat.zero_le _, rfl, by simp, Upd.refl _ _, HBE.out, HZ.out⟩
  case round =>
    obtain ⟨k, s, hk, rfl, hno, hu, hb, hz⟩ := hrel
    have HN := Lib.hid hno
    have HB := Lib.hid hb
    have HU := Lib.hid hu
    have HZ1 := Lib.hid hz
    clear hno hb hu hz
    by_cases hlt : k < n
    · obtain ⟨x, hx⟩ : ∃ x, R[k]? = some x := ⟨_, List.getElem?_eq_getElem (by rw [← HRL.out]; exact hlt)⟩
      obtain ⟨g, hg⟩ : ∃ g, m.rules[k]? = some g := ⟨_, List.getElem?_eq_getElem (by rw [← HLEN.out, ← HRL.out]; exact hlt)⟩
      have hw := HH.out.belowS HB.out
      obtain ⟨A', c', e', hr'⟩ := hw.rules
      injection e' with e1 e2 e3
      subst e1 e3
      obtain ⟨b', off, rfl, _, c1, c2, c3⟩ := hr'.at_ hx
      obtain ⟨s1, s2, -⟩ := hw.each k x g hx hg
      obtain ⟨x1, x2, x3⟩ := x
      dsimp only at c1 c2 c3 s1 s2
      have hkz : (k : Int) < (n : Int) := by omega
      obtain ⟨q1, q2⟩ := findIdx_next HN.out hg
      have Q1 := Lib.hid q1
      have Q2 := Lib.hid q2
      have hc := group1_any pw X Y Z m l _ vp vf vm vg R g x1 x2 x3 name s wr hw (List.mem_of_getElem? hg) s1 s2 HL.out HRS.out hl hn (HM.out.below HB.out) (HX.out.upd HU.out zX) (HY.out.upd HU.out zY) HZ1.out
      have HG := Lib.hid hg
      clear q1 q2 hx hg hw hr' s1 s2
      cases hb : fitsB m.rules l name g with
      | true =>
        rw [hb] at hc
        have HC := Lib.hid hc
        have hf := HQ.out.trans (Q1.out hb)
        subst hf
        have HS := Lib.hid (show stemF m.rules l name g = (stemR (headT g.1) name).1 by unfold stemF; rw [hb, if_pos rfl])
        clear hb Q1 Q2 HN hc
        go_wp2_with (go_at_call 102; refine HC.out.mono ?_; rintro e w2 ⟨rfl, hu2, hz2⟩; have HU2 := Lib.hid (HU.out.two hu2); have HZ2 := Lib.hid hz2; clear hu2 hz2)
        go_ret
        refine ⟨rfl, HU2.out, _, HZ2.out, fun i r hi hr => ?_⟩
        injection hi with hi
        subst hi
        rw [HG.out] at hr
        injection hr with hr
        rw [← hr]
        exact HS.out
      | false =>
        have HF := Lib.hid (Q2.out hb)
        rw [hb] at hc
        have HC := Lib.hid hc
        clear hb Q1 Q2 hc
        go_wp2_with (go_at_call 102; refine HC.out.mono ?_; rintro e w2 ⟨rfl, hu2, hz2⟩; have HU2 := Lib.hid (HU.out.two hu2); have HB2 := Lib.hid (HB.out.trans (hu2.below HB.out.size (fun k hk => by rw [show k = Z from hk]; exact zE))); have HZ2 := Lib.hid hz2; clear hu2 hz2)
        go_roundw
        case rel => exact ⟨k + 1, _, by omega, by go_num, HF.out, HU2.out, HB2.out, HZ2.out⟩
        case measure => simp [intOf]; omega
    · obtain rfl : k = n := by omega
      have hf := HQ.out.trans (findIdx_end HN.out (by rw [← HLEN.out, ← HRL.out]; exact Nat.le_refl _))
      subst hf
      clear HN HQ
      go_wp2
      go_ret
      exact ⟨rfl, HU.out, _, HZ1.out, fun i r hi => by cases hi⟩
end Go.Proofs.YtlkpbpecgdphaaaGreatDoor
