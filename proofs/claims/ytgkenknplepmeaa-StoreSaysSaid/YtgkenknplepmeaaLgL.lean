/-
  WALK: (*log.Log).Add.
-/
import Derived.Test.YtgkenknplepmeaaLgK
namespace Go.Proofs.Ytgkenknplepmeaa
open Go.RowKit Go.Sort

/-- An entry's first sector. -/
def s0R (n : Nat) (l : List Ch) : ByteArray := (entR n l).getD 0 ⟨#[]⟩
theorem s0R_at (n : Nat) (l : List Ch) : (entR n l)[0]? = some (s0R n l) := by
  have h : 0 < (entR n l).length := by rw [entR_len]; omega
  unfold s0R
  rw [List.getD_eq_getElem?_getD, List.getElem?_eq_getElem h]
  rfl
def weL (D : Dk) (fr mn fi u : Nat) (l : List Ch) : Dk × Int := weR D (fr + u) (rsR (mn - u) (entR (fi + u) l)) (s0R (fi + u) l)
/-- What adding an entry comes to: its error, the disk, the end of the last entry. -/
inductive LaR (D : Dk) (fr mn fi u : Nat) (l : List Ch) : Int → Dk → Nat → Prop where
  | many : 40 < l.length → LaR D fr mn fi u l 2 D u
  | full : l.length ≤ 40 → mn < u + l.length + 1 → LaR D fr mn fi u l 10 D u
  | bad (k : Nat) (c : Ch) : l.length ≤ 40 → u + l.length + 1 ≤ mn → l[k]? = some c → ckR c ≠ 0 → (∀ (j : Nat) (d : Ch), j < k → l[j]? = some d → ckR d = 0) → LaR D fr mn fi u l (ckR c) D u
  | down : l.length ≤ 40 → u + l.length + 1 ≤ mn → (∀ c ∈ l, ckR c = 0) → (weL D fr mn fi u l).2 = 11 → LaR D fr mn fi u l 11 (weL D fr mn fi u l).1 u
  | ok : l.length ≤ 40 → u + l.length + 1 ≤ mn → (∀ c ∈ l, ckR c = 0) → (weL D fr mn fi u l).2 = 0 → LaR D fr mn fi u l 0 (weL D fr mn fi u l).1 (u + l.length + 1)
def LaPost (w : World) (base p B pl : Nat) (D : Dk) (fr mn fi u : Nat) (l : List Ch) (e : Ending) (w' : World) : Prop := ∃ (er : Int) (D' : Dk) (u' : Nat), e = .returned (erV er) ∧ LaR D fr mn fi u l er D' u' ∧ (∃ V', DkAt w' base p B V' D') ∧ Blk w' pl tLog #[ptr p, .int .i64 fr, .int .i64 mn, .int .i64 fi, .int .i64 u'] ∧ Below base w w' ∧ TyX w w' pl
set_option maxHeartbeats 1000000 in
set_option maxRecDepth 100000 in
theorem logAdd_any (pl base p B fr mn fi u : Nat) (A : Option Addr) (m c : Nat) (l : List Ch) (V : Nat → Value) (D : Dk) (w : World) (hl : Blk w pl tLog #[ptr p, .int .i64 fr, .int .i64 mn, .int .i64 fi, .int .i64 u]) (hd : DkAt w base p B V D) (h : RdC w w.heap.size A m c l) (hs : ∀ f ∈ l, f.key.size ≤ 20 ∧ f.val.size ≤ 400) (hm : m ≤ 100000)
    (hf : fr + mn ≤ D.n) (hfi : fi ≤ 1000000000000) (hu : u ≤ mn) (hw : WOk D 1) (hpl : base ≤ pl) :
    Calls Try.prog 46 #[ptr pl, .slice A m c] w (LaPost w base p B pl D fr mn fi u l) := by
  have hn2 := hd.n2
  have hbs : base ≤ w.heap.size := by have := hd.ltp; have := hd.hp; omega
  have HL := Lib.hid hl
  have HD := Lib.hid hd
  have HR := Lib.hid h
  have HLN := Lib.hid h.1
  have HS := Lib.hid hs
  have HW := Lib.hid hw
  have HRM := Lib.hid (room_any pl p fr mn fi u w hl (by omega) (by omega))
  have hmc := h.2.1
  have hcm := h.2.2.1
  unfold maxLen at hcm
  clear hl hd h hs hw
  unfold ptr at *
  by_cases h40 : 40 < m
  · have z40 : (40 : Int) < (m : Int) := by omega
    go_enter Try.func46, Try.ntmps46
    go_wp2
    go_ret
    exact ⟨2, D, u, rfl, .many (by rw [HLN.out]; exact h40), ⟨V, HD.out⟩, HL.out, Below.refl _ _, fun _ _ _ hb _ _ _ _ => hb⟩
  have z40 : decide ((40 : Int) < (m : Int)) = false := decide_eq_false (by omega)
  by_cases hfull : mn < u + m + 1
  · have zf : (mn : Int) - (u : Int) < (m : Int) + 1 := by omega
    go_enter Try.func46, Try.ntmps46
    go_wp2_with fail
    refine HRM.out.mono ?_
    rintro e w1 ⟨rfl, q, rfl⟩
    go_wp2
    go_ret
    exact ⟨10, D, u, rfl, .full (by rw [HLN.out]; omega) (by rw [HLN.out]; exact hfull), ⟨V, HD.out.keep fun _ _ _ => rfl⟩, HL.out, below_drewN (Below.refl _ _) q, fun _ _ _ hb _ _ _ _ => hb⟩
  have zf : decide ((mn : Int) - (u : Int) < (m : Int) + 1) = false := decide_eq_false (by omega)
  go_enter Try.func46, Try.ntmps46
  go_wp2_with fail
  refine HRM.out.mono ?_
  rintro e w1 ⟨rfl, q, rfl⟩
  have HB1 : Hid (Below w.heap.size w (w.drewN q)) := below_drewN (Below.refl _ _) q
  have HEN := Lib.hid (entry_any pl p fr mn fi u A m c l (w.drewN q) HL.out (HR.out.below HB1.out) hm HS.out hfi (by omega))
  unfold EnPost ptr at HEN
  rw [show (w.drewN q).heap.size = w.heap.size from rfl] at HEN
  generalize w.drewN q = w1 at *
  clear HRM
  go_wp2_with fail
  refine HEN.out.mono ?_
  rintro e w2 ⟨hb2, hen⟩
  have HB2 := Lib.hid (HB1.out.trans hb2)
  have HL2 : Hid (Blk w2 pl tLog #[ptr p, .int .i64 fr, .int .i64 mn, .int .i64 fi, .int .i64 u]) := (HB2.out.block pl HL.out.lt).trans HL.out
  have HD2 : Hid (DkAt w2 base p B V D) := HD.out.keep fun _ _ hk => HB2.out.block _ hk
  have HT2 : Hid (∀ k t cs, Blk w k t cs → Blk w2 k t cs) := fun k t cs hb => (HB2.out.block k hb.lt).trans hb
  clear hb2 HB1 HEN
  rcases hen with ⟨v, rfl, hall, hown⟩ | ⟨k, c', hk, hc', hfirst, rfl⟩
  · have HALL := Lib.hid hall
    obtain ⟨g, cap, cur, rfl, hg1, hg2, hg3, hg4, hg5, hg6⟩ := own_some hown (by omega)
    have hcur : ∀ (i : Nat) (s : ByteArray), (entR (fi + u) l)[i]? = some s → cur[i]? = some (Value.string s) := fun i s hi => by
      have h8 : (scells (entR (fi + u) l))[i]? = some (.string s) := by rw [scells, List.getElem?_map, hi]; rfl
      rw [← hg6, List.getElem?_take] at h8
      split at h8
      · rw [← Array.getElem?_toList]; exact h8
      · cases h8
    have hlen := entR_len (fi + u) l
    have hq := writeEntry_any pl base p B fr mn fi u g cap cur V D (entR (fi + u) l) (s0R (fi + u) l) w2 HL2.out HD2.out hg2 hcur (by rw [hg5]; omega) (by rw [hlen]; exact hg3) hg4 (s0R_at _ _) (by rw [hlen, HLN.out]; omega) hf (entR_small hall) HW.out (by rw [hlen, HLN.out]; omega) (by omega)
    have hsp := weR_spec D (fr + u) (rsR (mn - u) (entR (fi + u) l)) (s0R (fi + u) l) (by have := rsR_len (room := mn - u) (ss := entR (fi + u) l) (by omega) (by rw [hlen, HLN.out]; omega); omega) (rsR_small (entR_small hall)) (entR_small hall _ (List.mem_of_getElem? (s0R_at _ _))) (by have := rsR_len (room := mn - u) (ss := entR (fi + u) l) (by omega) (by rw [hlen, HLN.out]; omega); rw [hlen, HLN.out] at this; omega) HW.out
    unfold WePost at hq
    rw [hlen] at hq
    rw [show weR D (fr + u) (rsR (mn - u) (entR (fi + u) l)) (s0R (fi + u) l) = weL D fr mn fi u l from rfl] at hq hsp
    unfold ptr at hq
    have HNG := Lib.hid (show pl ≠ g from HL2.out.ne hg2 (by decide))
    have HG1 := Lib.hid hg1
    clear hg1 hg2 hg3 hg4 hg5 hg6 hcur hlen hown hall
    have HLE : Hid (l.length = m) := HLN.out
    rcases hsp with ⟨e0, -⟩ | ⟨e0, -⟩
    · rw [e0, show erV 0 = .nilIface from rfl] at hq
      have HQ := Lib.hid hq
      have E0 := Lib.hid e0
      clear hq e0
      go_wp2_with fail
      refine HQ.out.mono ?_
      rintro e w3 ⟨rfl, hd3, hb3, ht3⟩
      obtain ⟨V3, hd3⟩ := hd3
      have hl3 := ht3 pl tLog _ HL2.out (by decide) (by decide) (by decide) HNG.out
      have y4 := hl3.cell 4
      have f4 := hl3.free 4
      have HL3 := Lib.hid hl3
      have HD3 := Lib.hid hd3
      have HB3 := Lib.hid ((HB2.out.mono hbs).trans hb3)
      have HT3 : Hid (∀ k t cs, Blk w k t cs → t ≠ tDk → t ≠ tSe → t ≠ tWt → Blk w3 k t cs) := fun k t cs hb h1 h2 h3 => ht3 k t cs (HT2.out k t cs hb) h1 h2 h3 (fun e => by have := hb.lt; have := HG1.out; omega)
      clear hl3 hd3 hb3 ht3 HQ
      have hl40 : l.length ≤ 40 := by rw [HLN.out]; omega
      go_wp2
      go_ret
      have e5 : (u : Int) + ((l.length : Int) + 1) = ((u + l.length + 1 : Nat) : Int) := by omega
      rw [e5]
      exact ⟨0, _, u + l.length + 1, rfl, .ok hl40 (by rw [HLN.out]; omega) HALL.out E0.out, ⟨V3, HD3.out.setG HL3.out (by decide) (by decide) (by decide) 4 _⟩, HL3.out.set 4 _, HB3.out.setCell (p := ⟨pl, 4, none⟩) hpl _, fun k t cs hb h1 h2 h3 h4 => (HT3.out k t cs hb h1 h2 h3).other h4 _⟩
    · rw [e0, show erV 11 = .iface 96 (.int .i64 11) from rfl] at hq
      have HQ := Lib.hid hq
      have E0 := Lib.hid e0
      clear hq e0
      go_wp2_with fail
      refine HQ.out.mono ?_
      rintro e w3 ⟨rfl, hd3, hb3, ht3⟩
      have HL3 := Lib.hid (ht3 pl tLog _ HL2.out (by decide) (by decide) (by decide) HNG.out)
      have HD3 := Lib.hid hd3
      have HB3 := Lib.hid ((HB2.out.mono hbs).trans hb3)
      have HT3 : Hid (∀ k t cs, Blk w k t cs → t ≠ tDk → t ≠ tSe → t ≠ tWt → Blk w3 k t cs) := fun k t cs hb h1 h2 h3 => ht3 k t cs (HT2.out k t cs hb) h1 h2 h3 (fun e => by have := hb.lt; have := HG1.out; omega)
      clear hd3 hb3 ht3 HQ
      go_wp2
      go_ret
      exact ⟨11, _, u, rfl, .down (by rw [HLN.out]; omega) (by rw [HLN.out]; omega) HALL.out E0.out, HD3.out, HL3.out, HB3.out, fun k t cs hb h1 h2 h3 _ => HT3.out k t cs hb h1 h2 h3⟩
  · have HE := Lib.hid (show erV (ckR c') = .iface 96 (.int .i64 (ckR c')) from if_neg hc')
    rw [HE.out]
    have HK := Lib.hid hk
    have HF := Lib.hid hfirst
    clear hk hfirst
    go_wp2
    go_ret
    exact ⟨ckR c', D, u, by rw [HE.out]; rfl, .bad k c' (by rw [HLN.out]; omega) (by rw [HLN.out]; omega) HK.out hc' HF.out, ⟨V, HD2.out⟩, HL2.out, HB2.out.mono hbs, fun k t cs hb _ _ _ _ => HT2.out k t cs hb⟩
end Go.Proofs.Ytgkenknplepmeaa
