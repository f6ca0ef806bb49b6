/-
  WALK: (*log.Log).writeEntry: a blank, the rest of an entry, its first sector.
-/
import Derived.Test.YtgkenknplepmeaaLgN
import Derived.ArgAppend
namespace Go.Proofs.Ytgkenknplepmeaa
open Go.RowKit Go.Sort

/-- Every block but the disk's and block g stands. -/
def TyX (w w' : World) (g : Nat) : Prop := ∀ k t cs, Blk w k t cs → t ≠ tDk → t ≠ tSe → t ≠ tWt → k ≠ g → Blk w' k t cs
theorem Ty.x {w w' : World} (h : Ty w w') (g : Nat) : TyX w w' g := fun k t cs hb h1 h2 h3 _ => h k t cs hb h1 h2 h3
theorem TyX.trans {a b c : World} {g : Nat} (h : TyX a b g) (k : TyX b c g) : TyX a c g := fun i t cs hb h1 h2 h3 h4 => k i t cs (h i t cs hb h1 h2 h3 h4) h1 h2 h3 h4
theorem TyX.set {a b : World} {g i : Nat} (h : TyX a b g) (v : Value) : TyX a (b.setCell ⟨g, i, none⟩ v) g := fun k t cs hb h1 h2 h3 h4 => (h k t cs hb h1 h2 h3 h4).other h4 v
theorem TyX.below {a b c : World} {g : Nat} (h : TyX a b g) (hb : Below b.heap.size b c) : TyX a c g := h.trans ((Ty.of_below hb).x g)
/-- A block that is none of the disk's turns. -/
theorem DkAt.setG {w : World} {base p B g : Nat} {V : Nat → Value} {D : Dk} {T : TypeId} {cs : Array Value} (h : DkAt w base p B V D) (hg : Blk w g T cs) (h1 : T ≠ tDk) (h2 : T ≠ tSe) (h3 : T ≠ tWt) (i : Nat) (v : Value) : DkAt (w.setCell ⟨g, i, none⟩ v) base p B V D := by
  obtain ⟨es, hb, hz⟩ := h.se
  have np : p ≠ g := h.dk.ne hg h1.symm
  have nB : B ≠ g := hb.ne hg h2.symm
  have nV : ∀ j, j < D.n → (V j).ownBlock ≠ some g := fun j hj => own_block_ne (h.own j hj) hg h3
  have hk : ∀ k, k ≠ g → (w.setCell ⟨g, i, none⟩ v).heap[k]? = w.heap[k]? := fun k hk => Below.heap_setCell _ _ _ _ hk
  exact ⟨h.hp, h.hB, (hk p np).trans h.dk, ⟨es, (hk B nB).trans hb, hz⟩, fun j hj => rangeAt_block (h.row j hj) (hk B nB),
    fun j hj => ownsRow_block (h.own j hj) (fun b hb => hk b (fun e => nV j hj (by rw [hb, e]))), h.sep, h.szd, h.szw, h.n1, h.n2, h.nx⟩
theorem own_some {w : World} {B s n : Nat} {e : TypeId} {v : Value} {xs : List Value} (h : w.ownsRow B e s v n xs) (hn : 0 < n) : ∃ g cap cur, v = .slice (some ⟨g, 0, none⟩) n cap ∧ B ≤ g ∧ Blk w g e cur ∧ n ≤ cap ∧ cap ≤ maxLen ∧ cur.size = cap * s ∧ cur.toList.take (n * s) = xs := by
  rcases h.2 with ⟨_, h0⟩ | ⟨g, cap, cur, h1⟩
  · omega
  · exact ⟨g, cap, cur, h1⟩
def WePost (w : World) (base p B g : Nat) (D : Dk) (a : Nat) (rs : List ByteArray) (s0 : ByteArray) (e : Ending) (w' : World) : Prop := e = .returned (erV (weR D a rs s0).2) ∧ (∃ V', DkAt w' base p B V' (weR D a rs s0).1) ∧ Below base w w' ∧ TyX w w' g
/-- One sector is written. -/
theorem logWrite_one (pl base p B fr mn fi u n : Nat) (V : Nat → Value) (D : Dk) (s : ByteArray) (w : World) (hl : Blk w pl tLog #[ptr p, .int .i64 fr, .int .i64 mn, .int .i64 fi, .int .i64 u]) (hd : DkAt w base p B V D) (hn : n + 1 ≤ D.n) (hs : s.size ≤ 340) (hw : WOk D 1) (hb : base ≤ w.heap.size) :
    Calls Try.prog 98 #[ptr pl, .int .i64 n, .slice (some ⟨w.heap.size, 0, none⟩) 1 1] (w.alloc (.cells #[.string s] tStr)) (WrPost w base p B D n [s]) := by
  refine (logWrite_any pl base p B fr mn fi u n w.heap.size 0 1 #[.string s] V D [s] _ (hl.alloc _) (hd.keep fun _ _ hk => Below.heap_alloc _ _ _ hk) (fun _ => ⟨Blk.new _ _ _, fun i x hi => ?_⟩) hn (one_small hs) hw).mono ?_
  · cases i with
    | zero => simp at hi ⊢; exact hi
    | succ i => simp at hi
  rintro e w' ⟨h1, h2, h3, h4⟩
  exact ⟨h1, h2, ((Below.refl _ _).alloc hb _).trans h3, (Ty.alloc w _).trans h4⟩
set_option maxHeartbeats 1000000 in
set_option maxRecDepth 100000 in
theorem writeEntry_any (pl base p B fr mn fi u g cap : Nat) (cur : Array Value) (V : Nat → Value) (D : Dk) (ss : List ByteArray) (s0 : ByteArray) (w : World) (hl : Blk w pl tLog #[ptr p, .int .i64 fr, .int .i64 mn, .int .i64 fi, .int .i64 u]) (hd : DkAt w base p B V D)
    (hg : Blk w g tStr cur) (hcur : ∀ (i : Nat) (s : ByteArray), ss[i]? = some s → cur[i]? = some (Value.string s)) (hcap : cur.size = cap) (hsc : ss.length ≤ cap) (hcm : cap ≤ maxLen) (h0 : ss[0]? = some s0) (hr : u + ss.length ≤ mn) (hf : fr + mn ≤ D.n) (hs : ∀ s ∈ ss, s.size ≤ 340) (hw : WOk D 1) (hm : ss.length ≤ 60) (hbg : base ≤ g) :
    Calls Try.prog 78 #[ptr pl, .slice (some ⟨g, 0, none⟩) ss.length cap] w (WePost w base p B g D (fr + u) (rsR (mn - u) ss) s0) := by
  obtain ⟨ti, hti, htz, hts, htb⟩ := str_info
  obtain ⟨rs, hrs⟩ : ∃ rs, rs = rsR (mn - u) ss := ⟨_, rfl⟩
  rw [← hrs]
  have HRS := Lib.hid hrs
  have HLN := Lib.hid (show rs.length ≤ ss.length ∧ 1 + rs.length ≤ mn - u by rw [hrs]; exact rsR_len (List.getElem?_eq_some_iff.1 h0).1 (by omega))
  have HSR := Lib.hid (show ∀ s ∈ rs, s.size ≤ 340 by rw [hrs]; exact rsR_small hs)
  clear hrs
  have HI := Lib.hid hti
  have HZ := Lib.hid htz
  have HSI := Lib.hid hts
  have HB := Lib.hid htb
  have hn2 := hd.n2
  have hk0 : 0 < ss.length := (List.getElem?_eq_some_iff.1 h0).1
  have c1 := hl.cell 1
  have c4 := hl.cell 4
  have wz : IntKind.i64.wrap ((fr : Int) + (u : Int)) = (fr : Int) + (u : Int) := by rw [IntKind.wrap_i64]; omega
  have HL := Lib.hid hl
  have HD := Lib.hid hd
  have HG := Lib.hid hg
  have HC := Lib.hid hcur
  have HS := Lib.hid hs
  have HW := Lib.hid hw
  have H0 := Lib.hid h0
  have HCZ := Lib.hid hcap
  clear hti htz hts htb hl hd hg hcur hs hw h0 hcap
  generalize hk : ss.length = k at *
  have HK := Lib.hid hk
  clear hk
  unfold ptr
  go_enter Try.func78, Try.ntmps78
  go_wp2_with fail
  go_quiet (fail)
  have HBE := Lib.hid (below_drewN (Below.refl base w) nq)
  have HTY := Lib.hid (show Ty w (w.drewN nq) from fun _ _ _ h _ _ _ => h)
  have HL1 : Hid (Blk (w.drewN nq) pl tLog #[ptr p, .int .i64 fr, .int .i64 mn, .int .i64 fi, .int .i64 u]) := HL.out
  have HD1 : Hid (DkAt (w.drewN nq) base p B V D) := HD.out.keep fun _ _ _ => rfl
  have HG1 : Hid (Blk (w.drewN nq) g tStr cur) := HG.out
  clear c1 c4 wz
  generalize w.drewN nq = w1 at *
  clear HL HD HG
  have hbs : base ≤ w1.heap.size := by have := HD1.out.ltp; have := HD1.out.hp; omega
  have hq1 := logWrite_one pl base p B fr mn fi u (fr + u) V D blB w1 HL1.out HD1.out (by omega) (by show 0 ≤ 340; omega) HW.out hbs
  unfold WrPost at hq1
  rw [show wrL D (fr + u) [blB] = we1 D (fr + u) from rfl, show ((fr + u : Nat) : Int) = (fr : Int) + (u : Int) by omega] at hq1
  unfold ptr at hq1
  have hsp := wrL_spec [blB] D (fr + u) (by show fr + u + 1 ≤ D.n; omega) (one_small (by show 0 ≤ 340; omega)) HW.out
  rw [show wrL D (fr + u) [blB] = we1 D (fr + u) from rfl] at hsp
  rcases hsp with ⟨e1, d1⟩ | ⟨e1, f1⟩
  · rw [e1, show erV 0 = .nilIface from rfl] at hq1
    have HQ1 := Lib.hid hq1
    have E1 := Lib.hid e1
    have D1 := Lib.hid d1
    clear hq1 e1 d1
    unfold blB at HQ1
    go_wp2_with fail
    refine HQ1.out.mono ?_
    rintro e w2 ⟨rfl, hd2, hb2, ht2⟩
    obtain ⟨V2, hd2⟩ := hd2
    have HL2 := Lib.hid (ht2 pl tLog _ HL1.out (by decide) (by decide) (by decide))
    have HG2 := Lib.hid (ht2 g tStr _ HG1.out (by decide) (by decide) (by decide))
    have HD2 := Lib.hid hd2
    have HB2 := Lib.hid (HBE.out.trans hb2)
    have HT2 := Lib.hid ((HTY.out.trans ht2).x g)
    clear hd2 hb2 ht2 HQ1 HL1 HG1 HD1 HBE HTY hbs
    -- GEN
    have hbs2 : base ≤ w2.heap.size := by have := HD2.out.ltp; have := HD2.out.hp; omega
    by_cases hc1 : cap = 1
    · subst hc1
      have hk1 : k = 1 := by omega
      subst hk1
      go_wp2_with fail
      refine (room_any pl p fr mn fi u w2 HL2.out (by omega) (by omega)).mono ?_
      rintro e w3 ⟨rfl, hw3⟩
      have HB3 : Hid (Below w2.heap.size w2 w3) := by obtain ⟨q, rfl⟩ := hw3; exact below_drewN (Below.refl _ _) q
      clear hw3
      have HL3 : Hid (Blk w3 pl tLog #[ptr p, .int .i64 fr, .int .i64 mn, .int .i64 fi, .int .i64 u]) := (HB3.out.block pl HL2.out.lt).trans HL2.out
      have HG3 : Hid (Blk w3 g tStr cur) := (HB3.out.block g HG2.out.lt).trans HG2.out
      have HD3 := Lib.hid (HD2.out.keep fun _ _ hk => HB3.out.block _ hk)
      have HT3 := Lib.hid (HT2.out.below HB3.out)
      have HBB := Lib.hid (HB2.out.trans (HB3.out.mono hbs2))
      clear HL2 HG2 HD2 HT2 HB2
      by_cases hrm : 1 < mn - u
      · have rm : (1 : Int) < (mn : Int) - (u : Int) := by omega
        have hrse : rs = ss.drop 1 ++ [blB] := by rw [HRS.out]; unfold rsR; rw [HK.out, if_pos hrm]
        have hL : rs.length = 1 := by rw [hrse, List.length_append, List.length_drop, HK.out]; rfl
        have HRSE := Lib.hid hrse
        clear hrse hrm
        have HG3a := Lib.hid (HG3.out.alloc (.cells #[.string ⟨#[]⟩] tStr))
        go_wp2_with (at_builtin; refine wpList_append_arg _ rfl (.tmp 32) (.tmp 33) _ rfl tStr ti _ 1 16 Try.underlying47 HI.out HZ.out HSI.out HB.out rfl (by omega) g 0 0 0 (scells (ss.drop 1)) rfl ?_ ?_ ⟨w3.heap.size, 0, none⟩ 1 1 [.string ⟨#[]⟩] rfl rfl ?_ ?_ ?_ ?_ ?_ ?_ ?_)
        · rw [scells, List.length_map, List.length_drop, HK.out] <;> omega
        · intro j x hj
          rw [scells, List.getElem?_map, List.getElem?_drop] at hj
          rcases hss : ss[1 + j]? with _ | s
          · rw [hss] at hj; cases hj
          · rw [hss] at hj
            injection hj with hj
            rw [HG3a.out.cell, ← hj]
            exact absurd (List.getElem?_eq_some_iff.1 hss).1 (by rw [HK.out]; omega)
        · intro j x hj
          rw [Go.WideShapes.add_plain, (Blk.new w3 tStr #[.string ⟨#[]⟩]).cell]
          cases j with
          | zero => exact hj
          | succ j => simp at hj
        · intro x hx
          obtain rfl : x = .string ⟨#[]⟩ := by simpa using hx
          rfl
        · intro hsp j hj
          have hj0 : j = 0 := by simpa using hj
          subst hj0
          rw [HG3a.out.cell, HG3a.out.free]
          refine ⟨?_, rfl⟩
          rw [Array.getElem?_eq_getElem (by rw [HCZ.out]; omega)]; rfl
        · unfold maxLen; omega
        · omega
        · intro v7 wt hown hgr
          obtain ⟨g7, cap7, cur7, rfl, h71, h72, h73, h74, h75, h76⟩ := own_some hown (by omega)
          have HGt : Hid (Blk wt g tStr cur) := (hgr.block g HG3a.out.lt (by simp)).trans HG3a.out
          have hLa := HL3.out.alloc (.cells #[.string ⟨#[]⟩] tStr)
          have HLt : Hid (Blk wt pl tLog #[ptr p, .int .i64 fr, .int .i64 mn, .int .i64 fi, .int .i64 u]) := (hgr.block pl hLa.lt (by simp)).trans hLa
          have HDt := Lib.hid ((HD3.out.keep (w' := w3.alloc (.cells #[.string ⟨#[]⟩] tStr)) fun _ _ hk => Below.heap_alloc _ _ _ hk).keep (w' := wt) fun kk _ hk => hgr.block kk hk (by simp))
          have HBg := Lib.hid (show Below (w3.alloc (.cells #[.string ⟨#[]⟩] tStr)).heap.size (w3.alloc (.cells #[.string ⟨#[]⟩] tStr)) wt from ⟨hgr.os, hgr.tape, hgr.output, hgr.size, fun kk hk => hgr.block kk hk (by simp)⟩)
          have hsz3 : base ≤ w3.heap.size := Nat.le_trans hbs2 HB3.out.size
          have HBt := Lib.hid ((HBB.out.alloc hsz3 (.cells #[.string ⟨#[]⟩] tStr)).trans (HBg.out.mono (by simp; omega)))
          have HTt := Lib.hid ((HT3.out.below ((Below.refl _ _).alloc (Nat.le_refl _) (.cells #[.string ⟨#[]⟩] tStr))).below HBg.out)
          have HX0 : Hid (cur[0]? = some (.string s0)) := HC.out 0 s0 H0.out
          have HRt : Hid (0 < rs.length → Blk wt g7 tStr cur7 ∧ ∀ (i : Nat) (s : ByteArray), rs[i]? = some s → cur7[0 + i]? = some (.string s)) := fun _ => ⟨h72, fun i s hi => by
            have h8 : (scells rs)[i]? = some (.string s) := by rw [scells, List.getElem?_map, hi]; rfl
            rw [show scells rs = scells ss.tail ++ [.string ⟨#[]⟩] by rw [HRSE.out, scells_append, List.drop_one]; rfl, ← h76, List.getElem?_take] at h8
            split at h8
            · rw [Nat.zero_add, ← Array.getElem?_toList]; exact h8
            · cases h8⟩
          clear HG3 HL3 HD3 HBB HT3 HG3a hgr hown HBg h71 h72 h73 h74 h75 h76 hLa hsz3
          have hq2 := logWrite_any pl base p B fr mn fi u (fr + u + 1) g7 0 (cap7) cur7 V2 (we1 D (fr + u)).1 rs wt HLt.out HDt.out HRt.out (by rw [D1.out.n_]; have := HLN.out; omega) HSR.out (wok_done D1.out (by have := HLN.out; omega))
          unfold WrPost at hq2
          rw [show wrL (we1 D (fr + u)).1 (fr + u + 1) rs = we2 D (fr + u) rs from rfl, hL, show ((fr + u + 1 : Nat) : Int) = (fr : Int) + (u : Int) + 1 by omega] at hq2
          unfold ptr at hq2
          have hsp := wrL_spec rs (we1 D (fr + u)).1 (fr + u + 1) (by rw [D1.out.n_]; have := HLN.out; omega) HSR.out (wok_done D1.out (by have := HLN.out; omega))
          rw [show wrL (we1 D (fr + u)).1 (fr + u + 1) rs = we2 D (fr + u) rs from rfl] at hsp
          rcases hsp with ⟨e2, d2⟩ | ⟨e2, f2⟩
          · rw [e2, show erV 0 = .nilIface from rfl] at hq2
            have HQ2 := Lib.hid hq2
            have E2 := Lib.hid e2
            have D2 := Lib.hid d2
            clear hq2 e2 d2 hL
            go_wp2_with fail
            (with_reducible refine HQ2.out.mono ?_)
            rintro e w4 ⟨rfl, hd4, hb4, ht4⟩
            obtain ⟨V4, hd4⟩ := hd4
            have HL4 := Lib.hid (ht4 pl tLog _ HLt.out (by decide) (by decide) (by decide))
            have HG4 := Lib.hid (ht4 g tStr _ HGt.out (by decide) (by decide) (by decide))
            have x0 : w4.cell? ⟨g, 0, none⟩ = some (.string s0) := (HG4.out.cell 0).trans HX0.out
            have HB4 := Lib.hid (HBt.out.trans hb4)
            have HT4 := Lib.hid (HTt.out.trans (ht4.x g))
            have hq3 := logWrite_one pl base p B fr mn fi u (fr + u) V4 (we2 D (fr + u) rs).1 s0 w4 HL4.out hd4 (by rw [D2.out.n_, D1.out.n_]; omega) (HS.out s0 (List.mem_of_getElem? H0.out)) (wok_done D2.out (by omega)) (by have := hd4.ltp; have := hd4.hp; omega)
            unfold WrPost at hq3
            rw [show wrL (we2 D (fr + u) rs).1 (fr + u) [s0] = we3 D (fr + u) rs s0 from rfl, show ((fr + u : Nat) : Int) = (fr : Int) + (u : Int) by omega] at hq3
            unfold ptr at hq3
            have he : weR D (fr + u) rs s0 = we3 D (fr + u) rs s0 := by unfold weR; rw [if_neg (by rw [E1.out]; simp), if_neg (by rw [E2.out]; simp)]
            rw [← he] at hq3
            obtain ⟨R3, hR3⟩ : ∃ R3, R3 = weR D (fr + u) rs s0 := ⟨_, rfl⟩
            rw [← hR3] at hq3
            have HR3 := Lib.hid hR3
            obtain ⟨E, hE⟩ : ∃ E, E = erV R3.2 := ⟨_, rfl⟩
            rw [← hE] at hq3
            have HE := Lib.hid hE
            have HQ3 := Lib.hid hq3
            clear hd4 hb4 ht4 HQ2 HLt HGt HDt HBt HTt HRt hq3 he hR3 hE
            go_wp2_with fail
            (with_reducible refine HQ3.out.mono ?_)
            rintro e w5 ⟨rfl, hd5, hb5, ht5⟩
            have HD5 := Lib.hid hd5
            have HB5 := Lib.hid (HB4.out.trans hb5)
            have HT5 := Lib.hid (HT4.out.trans (ht5.x g))
            clear hd5 hb5 ht5 HQ3 x0
            go_wp2
            go_ret
            exact ⟨by rw [← HR3.out, ← HE.out]; rfl, by rw [← HR3.out]; exact HD5.out, HB5.out, HT5.out⟩
          · rw [e2, show erV 11 = .iface 96 (.int .i64 11) from rfl] at hq2
            have HQ2 := Lib.hid hq2
            have E2 := Lib.hid e2
            clear hq2 e2 f2 hL
            go_wp2_with fail
            (with_reducible refine HQ2.out.mono ?_)
            rintro e w4 ⟨rfl, hd4, hb4, ht4⟩
            have HD4 := Lib.hid hd4
            have HB4 := Lib.hid (HBt.out.trans hb4)
            have HT4 := Lib.hid (HTt.out.trans (ht4.x g))
            clear hd4 hb4 ht4 HQ2
            go_wp2
            go_ret
            have he : weR D (fr + u) rs s0 = we2 D (fr + u) rs := by unfold weR; rw [if_neg (by rw [E1.out]; simp), if_pos (by rw [E2.out]; simp)]
            exact ⟨by rw [he, E2.out]; rfl, by rw [he]; exact HD4.out, HB4.out, HT4.out⟩
      · have rm : decide ((1 : Int) < (mn : Int) - (u : Int)) = false := decide_eq_false (by omega)
        have hrse : rs = ss.drop 1 := by rw [HRS.out]; unfold rsR; rw [HK.out, if_neg hrm]
        have hL : rs.length = 0 := by rw [hrse, List.length_drop, HK.out]
        have HRSE := Lib.hid hrse
        have HX0 : Hid (cur[0]? = some (.string s0)) := HC.out 0 s0 H0.out
        have HRt : Hid (0 < rs.length → Blk w3 g tStr cur ∧ ∀ (i : Nat) (s : ByteArray), rs[i]? = some s → cur[0 + i]? = some (.string s)) := fun hpos => ⟨HG3.out, fun i s hi => by
          rw [HRSE.out, List.getElem?_drop] at hi
          exact absurd hpos (by rw [hL]; omega)⟩
        have HLt := HL3
        have HDt := HD3
        have HGt := HG3
        have HBt := HBB
        have HTt := HT3
        clear hrse HG3 HL3 HD3 HBB HT3 HRSE
        have hq2 := logWrite_any pl base p B fr mn fi u (fr + u + 1) g 0 0 cur V2 (we1 D (fr + u)).1 rs w3 HLt.out HDt.out HRt.out (by rw [D1.out.n_]; have := HLN.out; omega) HSR.out (wok_done D1.out (by have := HLN.out; omega))
        unfold WrPost at hq2
        rw [show wrL (we1 D (fr + u)).1 (fr + u + 1) rs = we2 D (fr + u) rs from rfl, hL, show ((fr + u + 1 : Nat) : Int) = (fr : Int) + (u : Int) + 1 by omega] at hq2
        unfold ptr at hq2
        have hsp := wrL_spec rs (we1 D (fr + u)).1 (fr + u + 1) (by rw [D1.out.n_]; have := HLN.out; omega) HSR.out (wok_done D1.out (by have := HLN.out; omega))
        rw [show wrL (we1 D (fr + u)).1 (fr + u + 1) rs = we2 D (fr + u) rs from rfl] at hsp
        rcases hsp with ⟨e2, d2⟩ | ⟨e2, f2⟩
        · rw [e2, show erV 0 = .nilIface from rfl] at hq2
          have HQ2 := Lib.hid hq2
          have E2 := Lib.hid e2
          have D2 := Lib.hid d2
          clear hq2 e2 d2 hL
          go_wp2_with fail
          (with_reducible refine HQ2.out.mono ?_)
          rintro e w4 ⟨rfl, hd4, hb4, ht4⟩
          obtain ⟨V4, hd4⟩ := hd4
          have HL4 := Lib.hid (ht4 pl tLog _ HLt.out (by decide) (by decide) (by decide))
          have HG4 := Lib.hid (ht4 g tStr _ HGt.out (by decide) (by decide) (by decide))
          have x0 : w4.cell? ⟨g, 0, none⟩ = some (.string s0) := (HG4.out.cell 0).trans HX0.out
          have HB4 := Lib.hid (HBt.out.trans hb4)
          have HT4 := Lib.hid (HTt.out.trans (ht4.x g))
          have hq3 := logWrite_one pl base p B fr mn fi u (fr + u) V4 (we2 D (fr + u) rs).1 s0 w4 HL4.out hd4 (by rw [D2.out.n_, D1.out.n_]; omega) (HS.out s0 (List.mem_of_getElem? H0.out)) (wok_done D2.out (by omega)) (by have := hd4.ltp; have := hd4.hp; omega)
          unfold WrPost at hq3
          rw [show wrL (we2 D (fr + u) rs).1 (fr + u) [s0] = we3 D (fr + u) rs s0 from rfl, show ((fr + u : Nat) : Int) = (fr : Int) + (u : Int) by omega] at hq3
          unfold ptr at hq3
          have he : weR D (fr + u) rs s0 = we3 D (fr + u) rs s0 := by unfold weR; rw [if_neg (by rw [E1.out]; simp), if_neg (by rw [E2.out]; simp)]
          rw [← he] at hq3
          obtain ⟨R3, hR3⟩ : ∃ R3, R3 = weR D (fr + u) rs s0 := ⟨_, rfl⟩
          rw [← hR3] at hq3
          have HR3 := Lib.hid hR3
          obtain ⟨E, hE⟩ : ∃ E, E = erV R3.2 := ⟨_, rfl⟩
          rw [← hE] at hq3
          have HE := Lib.hid hE
          have HQ3 := Lib.hid hq3
          clear hd4 hb4 ht4 HQ2 HLt HGt HDt HBt HTt HRt hq3 he hR3 hE
          go_wp2_with fail
          (with_reducible refine HQ3.out.mono ?_)
          rintro e w5 ⟨rfl, hd5, hb5, ht5⟩
          have HD5 := Lib.hid hd5
          have HB5 := Lib.hid (HB4.out.trans hb5)
          have HT5 := Lib.hid (HT4.out.trans (ht5.x g))
          clear hd5 hb5 ht5 HQ3 x0
          go_wp2
          go_ret
          exact ⟨by rw [← HR3.out, ← HE.out]; rfl, by rw [← HR3.out]; exact HD5.out, HB5.out, HT5.out⟩
        · rw [e2, show erV 11 = .iface 96 (.int .i64 11) from rfl] at hq2
          have HQ2 := Lib.hid hq2
          have E2 := Lib.hid e2
          clear hq2 e2 f2 hL
          go_wp2_with fail
          (with_reducible refine HQ2.out.mono ?_)
          rintro e w4 ⟨rfl, hd4, hb4, ht4⟩
          have HD4 := Lib.hid hd4
          have HB4 := Lib.hid (HBt.out.trans hb4)
          have HT4 := Lib.hid (HTt.out.trans (ht4.x g))
          clear hd4 hb4 ht4 HQ2
          go_wp2
          go_ret
          have he : weR D (fr + u) rs s0 = we2 D (fr + u) rs := by unfold weR; rw [if_neg (by rw [E1.out]; simp), if_pos (by rw [E2.out]; simp)]
          exact ⟨by rw [he, E2.out]; rfl, by rw [he]; exact HD4.out, HB4.out, HT4.out⟩
    · have hc2 : ¬ cap = 1 := hc1
      go_wp2_with fail
      refine (room_any pl p fr mn fi u w2 HL2.out (by omega) (by omega)).mono ?_
      rintro e w3 ⟨rfl, hw3⟩
      have HB3 : Hid (Below w2.heap.size w2 w3) := by obtain ⟨q, rfl⟩ := hw3; exact below_drewN (Below.refl _ _) q
      clear hw3
      have HL3 : Hid (Blk w3 pl tLog #[ptr p, .int .i64 fr, .int .i64 mn, .int .i64 fi, .int .i64 u]) := (HB3.out.block pl HL2.out.lt).trans HL2.out
      have HG3 : Hid (Blk w3 g tStr cur) := (HB3.out.block g HG2.out.lt).trans HG2.out
      have HD3 := Lib.hid (HD2.out.keep fun _ _ hk => HB3.out.block _ hk)
      have HT3 := Lib.hid (HT2.out.below HB3.out)
      have HBB := Lib.hid (HB2.out.trans (HB3.out.mono hbs2))
      clear HL2 HG2 HD2 HT2 HB2
      by_cases hrm : k < mn - u
      · have rm : (k : Int) < (mn : Int) - (u : Int) := by omega
        have hrse : rs = ss.drop 1 ++ [blB] := by rw [HRS.out]; unfold rsR; rw [HK.out, if_pos hrm]
        have hL : rs.length = k - 1 + 1 := by rw [hrse, List.length_append, List.length_drop, HK.out]; rfl
        have HRSE := Lib.hid hrse
        clear hrse hrm
        have HG3a := Lib.hid (HG3.out.alloc (.cells #[.string ⟨#[]⟩] tStr))
        go_wp2_with (at_builtin; refine wpList_append_arg _ rfl (.tmp 32) (.tmp 33) _ rfl tStr ti _ 1 16 Try.underlying47 HI.out HZ.out HSI.out HB.out rfl (by omega) g 1 (k - 1) (cap - 1) (scells (ss.drop 1)) rfl ?_ ?_ ⟨w3.heap.size, 0, none⟩ 1 1 [.string ⟨#[]⟩] rfl rfl ?_ ?_ ?_ ?_ ?_ ?_ ?_)
        · rw [scells, List.length_map, List.length_drop, HK.out] <;> omega
        · intro j x hj
          rw [scells, List.getElem?_map, List.getElem?_drop] at hj
          rcases hss : ss[1 + j]? with _ | s
          · rw [hss] at hj; cases hj
          · rw [hss] at hj
            injection hj with hj
            rw [HG3a.out.cell, ← hj]
            exact HC.out _ _ hss
        · intro j x hj
          rw [Go.WideShapes.add_plain, (Blk.new w3 tStr #[.string ⟨#[]⟩]).cell]
          cases j with
          | zero => exact hj
          | succ j => simp at hj
        · intro x hx
          obtain rfl : x = .string ⟨#[]⟩ := by simpa using hx
          rfl
        · intro hsp j hj
          have hj0 : j = 0 := by simpa using hj
          subst hj0
          rw [HG3a.out.cell, HG3a.out.free]
          refine ⟨?_, rfl⟩
          rw [Array.getElem?_eq_getElem (by rw [HCZ.out]; omega)]; rfl
        · unfold maxLen; omega
        · omega
        · intro hsp
          have HGt := Lib.hid (HG3a.out.set (1 + (k - 1)) (.string ⟨#[]⟩))
          have HLt := Lib.hid ((HL3.out.alloc (.cells #[.string ⟨#[]⟩] tStr)).other (HL3.out.ne HG3.out (by decide)) (i := 1 + (k - 1)) (.string ⟨#[]⟩))
          have HDt := Lib.hid ((HD3.out.keep (w' := w3.alloc (.cells #[.string ⟨#[]⟩] tStr)) fun _ _ hk => Below.heap_alloc _ _ _ hk).setG HG3a.out (by decide) (by decide) (by decide) (1 + (k - 1)) (.string ⟨#[]⟩))
          have HBt := Lib.hid ((HBB.out.alloc (Nat.le_trans hbs2 HB3.out.size) (.cells #[.string ⟨#[]⟩] tStr)).setCell (p := ⟨g, 1 + (k - 1), none⟩) hbg (.string ⟨#[]⟩))
          have HTt := Lib.hid ((HT3.out.below ((Below.refl _ _).alloc (Nat.le_refl _) (.cells #[.string ⟨#[]⟩] tStr))).set (i := 1 + (k - 1)) (.string ⟨#[]⟩))
          have HX0 : Hid ((cur.setIfInBounds (1 + (k - 1)) (.string ⟨#[]⟩))[0]? = some (.string s0)) := by
            show _ = _
            rw [Array.getElem?_setIfInBounds_ne (by omega)]
            exact HC.out 0 s0 H0.out
          have HRt : Hid (0 < rs.length → Blk ((w3.alloc (.cells #[.string ⟨#[]⟩] tStr)).setCell ⟨g, 1 + (k - 1), none⟩ (.string ⟨#[]⟩)) g tStr (cur.setIfInBounds (1 + (k - 1)) (.string ⟨#[]⟩)) ∧ ∀ (i : Nat) (s : ByteArray), rs[i]? = some s → (cur.setIfInBounds (1 + (k - 1)) (.string ⟨#[]⟩))[1 + i]? = some (.string s)) := fun _ => ⟨HGt.out, fun i s hi => by
            rw [HRSE.out] at hi
            rcases Nat.lt_or_ge i (k - 1) with h1 | h1
            · rw [List.getElem?_append_left (by rw [List.length_drop, HK.out]; exact h1), List.getElem?_drop] at hi
              rw [Array.getElem?_setIfInBounds_ne (by omega)]
              exact HC.out _ _ hi
            · rw [List.getElem?_append_right (by rw [List.length_drop, HK.out]; exact h1), List.length_drop, HK.out] at hi
              have h2 := (List.getElem?_eq_some_iff.1 hi).1
              have h3 : i = k - 1 := by simp at h2; omega
              subst h3
              rw [Nat.sub_self] at hi
              obtain rfl : blB = s := by simpa using hi
              rw [Array.getElem?_setIfInBounds_self_of_lt (by rw [HCZ.out]; omega)]
              rfl⟩
          clear HG3 HL3 HD3 HBB HT3 HG3a
          rw [show ((w3.alloc (.cells #[.string ⟨#[]⟩] tStr)).setCells g (1 + (k - 1)) [.string ⟨#[]⟩]) = (w3.alloc (.cells #[.string ⟨#[]⟩] tStr)).setCell ⟨g, 1 + (k - 1), none⟩ (.string ⟨#[]⟩) from rfl]
          generalize (w3.alloc (.cells #[.string ⟨#[]⟩] tStr)).setCell ⟨g, 1 + (k - 1), none⟩ (.string ⟨#[]⟩) = wt at *
          have hq2 := logWrite_any pl base p B fr mn fi u (fr + u + 1) g 1 (cap - 1) _ V2 (we1 D (fr + u)).1 rs wt HLt.out HDt.out HRt.out (by rw [D1.out.n_]; have := HLN.out; omega) HSR.out (wok_done D1.out (by have := HLN.out; omega))
          unfold WrPost at hq2
          rw [show wrL (we1 D (fr + u)).1 (fr + u + 1) rs = we2 D (fr + u) rs from rfl, hL, show ((fr + u + 1 : Nat) : Int) = (fr : Int) + (u : Int) + 1 by omega] at hq2
          unfold ptr at hq2
          have hsp := wrL_spec rs (we1 D (fr + u)).1 (fr + u + 1) (by rw [D1.out.n_]; have := HLN.out; omega) HSR.out (wok_done D1.out (by have := HLN.out; omega))
          rw [show wrL (we1 D (fr + u)).1 (fr + u + 1) rs = we2 D (fr + u) rs from rfl] at hsp
          rcases hsp with ⟨e2, d2⟩ | ⟨e2, f2⟩
          · rw [e2, show erV 0 = .nilIface from rfl] at hq2
            have HQ2 := Lib.hid hq2
            have E2 := Lib.hid e2
            have D2 := Lib.hid d2
            clear hq2 e2 d2 hL
            go_wp2_with fail
            (with_reducible refine HQ2.out.mono ?_)
            rintro e w4 ⟨rfl, hd4, hb4, ht4⟩
            obtain ⟨V4, hd4⟩ := hd4
            have HL4 := Lib.hid (ht4 pl tLog _ HLt.out (by decide) (by decide) (by decide))
            have HG4 := Lib.hid (ht4 g tStr _ HGt.out (by decide) (by decide) (by decide))
            have x0 : w4.cell? ⟨g, 0, none⟩ = some (.string s0) := (HG4.out.cell 0).trans HX0.out
            have HB4 := Lib.hid (HBt.out.trans hb4)
            have HT4 := Lib.hid (HTt.out.trans (ht4.x g))
            have hq3 := logWrite_one pl base p B fr mn fi u (fr + u) V4 (we2 D (fr + u) rs).1 s0 w4 HL4.out hd4 (by rw [D2.out.n_, D1.out.n_]; omega) (HS.out s0 (List.mem_of_getElem? H0.out)) (wok_done D2.out (by omega)) (by have := hd4.ltp; have := hd4.hp; omega)
            unfold WrPost at hq3
            rw [show wrL (we2 D (fr + u) rs).1 (fr + u) [s0] = we3 D (fr + u) rs s0 from rfl, show ((fr + u : Nat) : Int) = (fr : Int) + (u : Int) by omega] at hq3
            unfold ptr at hq3
            have he : weR D (fr + u) rs s0 = we3 D (fr + u) rs s0 := by unfold weR; rw [if_neg (by rw [E1.out]; simp), if_neg (by rw [E2.out]; simp)]
            rw [← he] at hq3
            obtain ⟨R3, hR3⟩ : ∃ R3, R3 = weR D (fr + u) rs s0 := ⟨_, rfl⟩
            rw [← hR3] at hq3
            have HR3 := Lib.hid hR3
            obtain ⟨E, hE⟩ : ∃ E, E = erV R3.2 := ⟨_, rfl⟩
            rw [← hE] at hq3
            have HE := Lib.hid hE
            have HQ3 := Lib.hid hq3
            clear hd4 hb4 ht4 HQ2 HLt HGt HDt HBt HTt HRt hq3 he hR3 hE
            go_wp2_with fail
            (with_reducible refine HQ3.out.mono ?_)
            rintro e w5 ⟨rfl, hd5, hb5, ht5⟩
            have HD5 := Lib.hid hd5
            have HB5 := Lib.hid (HB4.out.trans hb5)
            have HT5 := Lib.hid (HT4.out.trans (ht5.x g))
            clear hd5 hb5 ht5 HQ3 x0
            go_wp2
            go_ret
            exact ⟨by rw [← HR3.out, ← HE.out]; rfl, by rw [← HR3.out]; exact HD5.out, HB5.out, HT5.out⟩
          · rw [e2, show erV 11 = .iface 96 (.int .i64 11) from rfl] at hq2
            have HQ2 := Lib.hid hq2
            have E2 := Lib.hid e2
            clear hq2 e2 f2 hL
            go_wp2_with fail
            (with_reducible refine HQ2.out.mono ?_)
            rintro e w4 ⟨rfl, hd4, hb4, ht4⟩
            have HD4 := Lib.hid hd4
            have HB4 := Lib.hid (HBt.out.trans hb4)
            have HT4 := Lib.hid (HTt.out.trans (ht4.x g))
            clear hd4 hb4 ht4 HQ2
            go_wp2
            go_ret
            have he : weR D (fr + u) rs s0 = we2 D (fr + u) rs := by unfold weR; rw [if_neg (by rw [E1.out]; simp), if_pos (by rw [E2.out]; simp)]
            exact ⟨by rw [he, E2.out]; rfl, by rw [he]; exact HD4.out, HB4.out, HT4.out⟩
        · intro hsp v7 wt hown hgr
          obtain ⟨g7, cap7, cur7, rfl, h71, h72, h73, h74, h75, h76⟩ := own_some hown (by omega)
          have HGt : Hid (Blk wt g tStr cur) := (hgr.block g HG3a.out.lt (by simp)).trans HG3a.out
          have hLa := HL3.out.alloc (.cells #[.string ⟨#[]⟩] tStr)
          have HLt : Hid (Blk wt pl tLog #[ptr p, .int .i64 fr, .int .i64 mn, .int .i64 fi, .int .i64 u]) := (hgr.block pl hLa.lt (by simp)).trans hLa
          have HDt := Lib.hid ((HD3.out.keep (w' := w3.alloc (.cells #[.string ⟨#[]⟩] tStr)) fun _ _ hk => Below.heap_alloc _ _ _ hk).keep (w' := wt) fun kk _ hk => hgr.block kk hk (by simp))
          have HBg := Lib.hid (show Below (w3.alloc (.cells #[.string ⟨#[]⟩] tStr)).heap.size (w3.alloc (.cells #[.string ⟨#[]⟩] tStr)) wt from ⟨hgr.os, hgr.tape, hgr.output, hgr.size, fun kk hk => hgr.block kk hk (by simp)⟩)
          have hsz3 : base ≤ w3.heap.size := Nat.le_trans hbs2 HB3.out.size
          have HBt := Lib.hid ((HBB.out.alloc hsz3 (.cells #[.string ⟨#[]⟩] tStr)).trans (HBg.out.mono (by simp; omega)))
          have HTt := Lib.hid ((HT3.out.below ((Below.refl _ _).alloc (Nat.le_refl _) (.cells #[.string ⟨#[]⟩] tStr))).below HBg.out)
          have HX0 : Hid (cur[0]? = some (.string s0)) := HC.out 0 s0 H0.out
          have HRt : Hid (0 < rs.length → Blk wt g7 tStr cur7 ∧ ∀ (i : Nat) (s : ByteArray), rs[i]? = some s → cur7[0 + i]? = some (.string s)) := fun _ => ⟨h72, fun i s hi => by
            have h8 : (scells rs)[i]? = some (.string s) := by rw [scells, List.getElem?_map, hi]; rfl
            rw [show scells rs = scells ss.tail ++ [.string ⟨#[]⟩] by rw [HRSE.out, scells_append, List.drop_one]; rfl, ← h76, List.getElem?_take] at h8
            split at h8
            · rw [Nat.zero_add, ← Array.getElem?_toList]; exact h8
            · cases h8⟩
          clear HG3 HL3 HD3 HBB HT3 HG3a hgr hown HBg h71 h72 h73 h74 h75 h76 hLa hsz3
          have hq2 := logWrite_any pl base p B fr mn fi u (fr + u + 1) g7 0 (cap7) cur7 V2 (we1 D (fr + u)).1 rs wt HLt.out HDt.out HRt.out (by rw [D1.out.n_]; have := HLN.out; omega) HSR.out (wok_done D1.out (by have := HLN.out; omega))
          unfold WrPost at hq2
          rw [show wrL (we1 D (fr + u)).1 (fr + u + 1) rs = we2 D (fr + u) rs from rfl, hL, show ((fr + u + 1 : Nat) : Int) = (fr : Int) + (u : Int) + 1 by omega] at hq2
          unfold ptr at hq2
          have hsp := wrL_spec rs (we1 D (fr + u)).1 (fr + u + 1) (by rw [D1.out.n_]; have := HLN.out; omega) HSR.out (wok_done D1.out (by have := HLN.out; omega))
          rw [show wrL (we1 D (fr + u)).1 (fr + u + 1) rs = we2 D (fr + u) rs from rfl] at hsp
          rcases hsp with ⟨e2, d2⟩ | ⟨e2, f2⟩
          · rw [e2, show erV 0 = .nilIface from rfl] at hq2
            have HQ2 := Lib.hid hq2
            have E2 := Lib.hid e2
            have D2 := Lib.hid d2
            clear hq2 e2 d2 hL
            go_wp2_with fail
            (with_reducible refine HQ2.out.mono ?_)
            rintro e w4 ⟨rfl, hd4, hb4, ht4⟩
            obtain ⟨V4, hd4⟩ := hd4
            have HL4 := Lib.hid (ht4 pl tLog _ HLt.out (by decide) (by decide) (by decide))
            have HG4 := Lib.hid (ht4 g tStr _ HGt.out (by decide) (by decide) (by decide))
            have x0 : w4.cell? ⟨g, 0, none⟩ = some (.string s0) := (HG4.out.cell 0).trans HX0.out
            have HB4 := Lib.hid (HBt.out.trans hb4)
            have HT4 := Lib.hid (HTt.out.trans (ht4.x g))
            have hq3 := logWrite_one pl base p B fr mn fi u (fr + u) V4 (we2 D (fr + u) rs).1 s0 w4 HL4.out hd4 (by rw [D2.out.n_, D1.out.n_]; omega) (HS.out s0 (List.mem_of_getElem? H0.out)) (wok_done D2.out (by omega)) (by have := hd4.ltp; have := hd4.hp; omega)
            unfold WrPost at hq3
            rw [show wrL (we2 D (fr + u) rs).1 (fr + u) [s0] = we3 D (fr + u) rs s0 from rfl, show ((fr + u : Nat) : Int) = (fr : Int) + (u : Int) by omega] at hq3
            unfold ptr at hq3
            have he : weR D (fr + u) rs s0 = we3 D (fr + u) rs s0 := by unfold weR; rw [if_neg (by rw [E1.out]; simp), if_neg (by rw [E2.out]; simp)]
            rw [← he] at hq3
            obtain ⟨R3, hR3⟩ : ∃ R3, R3 = weR D (fr + u) rs s0 := ⟨_, rfl⟩
            rw [← hR3] at hq3
            have HR3 := Lib.hid hR3
            obtain ⟨E, hE⟩ : ∃ E, E = erV R3.2 := ⟨_, rfl⟩
            rw [← hE] at hq3
            have HE := Lib.hid hE
            have HQ3 := Lib.hid hq3
            clear hd4 hb4 ht4 HQ2 HLt HGt HDt HBt HTt HRt hq3 he hR3 hE
            go_wp2_with fail
            (with_reducible refine HQ3.out.mono ?_)
            rintro e w5 ⟨rfl, hd5, hb5, ht5⟩
            have HD5 := Lib.hid hd5
            have HB5 := Lib.hid (HB4.out.trans hb5)
            have HT5 := Lib.hid (HT4.out.trans (ht5.x g))
            clear hd5 hb5 ht5 HQ3 x0
            go_wp2
            go_ret
            exact ⟨by rw [← HR3.out, ← HE.out]; rfl, by rw [← HR3.out]; exact HD5.out, HB5.out, HT5.out⟩
          · rw [e2, show erV 11 = .iface 96 (.int .i64 11) from rfl] at hq2
            have HQ2 := Lib.hid hq2
            have E2 := Lib.hid e2
            clear hq2 e2 f2 hL
            go_wp2_with fail
            (with_reducible refine HQ2.out.mono ?_)
            rintro e w4 ⟨rfl, hd4, hb4, ht4⟩
            have HD4 := Lib.hid hd4
            have HB4 := Lib.hid (HBt.out.trans hb4)
            have HT4 := Lib.hid (HTt.out.trans (ht4.x g))
            clear hd4 hb4 ht4 HQ2
            go_wp2
            go_ret
            have he : weR D (fr + u) rs s0 = we2 D (fr + u) rs := by unfold weR; rw [if_neg (by rw [E1.out]; simp), if_pos (by rw [E2.out]; simp)]
            exact ⟨by rw [he, E2.out]; rfl, by rw [he]; exact HD4.out, HB4.out, HT4.out⟩
      · have rm : decide ((k : Int) < (mn : Int) - (u : Int)) = false := decide_eq_false (by omega)
        have hrse : rs = ss.drop 1 := by rw [HRS.out]; unfold rsR; rw [HK.out, if_neg hrm]
        have hL : rs.length = k - 1 := by rw [hrse, List.length_drop, HK.out]
        have HRSE := Lib.hid hrse
        have HX0 : Hid (cur[0]? = some (.string s0)) := HC.out 0 s0 H0.out
        have HRt : Hid (0 < rs.length → Blk w3 g tStr cur ∧ ∀ (i : Nat) (s : ByteArray), rs[i]? = some s → cur[1 + i]? = some (.string s)) := fun hpos => ⟨HG3.out, fun i s hi => by
          rw [HRSE.out, List.getElem?_drop] at hi
          exact HC.out _ _ hi⟩
        have HLt := HL3
        have HDt := HD3
        have HGt := HG3
        have HBt := HBB
        have HTt := HT3
        clear hrse HG3 HL3 HD3 HBB HT3 HRSE
        have hq2 := logWrite_any pl base p B fr mn fi u (fr + u + 1) g 1 (cap - 1) cur V2 (we1 D (fr + u)).1 rs w3 HLt.out HDt.out HRt.out (by rw [D1.out.n_]; have := HLN.out; omega) HSR.out (wok_done D1.out (by have := HLN.out; omega))
        unfold WrPost at hq2
        rw [show wrL (we1 D (fr + u)).1 (fr + u + 1) rs = we2 D (fr + u) rs from rfl, hL, show ((fr + u + 1 : Nat) : Int) = (fr : Int) + (u : Int) + 1 by omega] at hq2
        unfold ptr at hq2
        have hsp := wrL_spec rs (we1 D (fr + u)).1 (fr + u + 1) (by rw [D1.out.n_]; have := HLN.out; omega) HSR.out (wok_done D1.out (by have := HLN.out; omega))
        rw [show wrL (we1 D (fr + u)).1 (fr + u + 1) rs = we2 D (fr + u) rs from rfl] at hsp
        rcases hsp with ⟨e2, d2⟩ | ⟨e2, f2⟩
        · rw [e2, show erV 0 = .nilIface from rfl] at hq2
          have HQ2 := Lib.hid hq2
          have E2 := Lib.hid e2
          have D2 := Lib.hid d2
          clear hq2 e2 d2 hL
          go_wp2_with fail
          (with_reducible refine HQ2.out.mono ?_)
          rintro e w4 ⟨rfl, hd4, hb4, ht4⟩
          obtain ⟨V4, hd4⟩ := hd4
          have HL4 := Lib.hid (ht4 pl tLog _ HLt.out (by decide) (by decide) (by decide))
          have HG4 := Lib.hid (ht4 g tStr _ HGt.out (by decide) (by decide) (by decide))
          have x0 : w4.cell? ⟨g, 0, none⟩ = some (.string s0) := (HG4.out.cell 0).trans HX0.out
          have HB4 := Lib.hid (HBt.out.trans hb4)
          have HT4 := Lib.hid (HTt.out.trans (ht4.x g))
          have hq3 := logWrite_one pl base p B fr mn fi u (fr + u) V4 (we2 D (fr + u) rs).1 s0 w4 HL4.out hd4 (by rw [D2.out.n_, D1.out.n_]; omega) (HS.out s0 (List.mem_of_getElem? H0.out)) (wok_done D2.out (by omega)) (by have := hd4.ltp; have := hd4.hp; omega)
          unfold WrPost at hq3
          rw [show wrL (we2 D (fr + u) rs).1 (fr + u) [s0] = we3 D (fr + u) rs s0 from rfl, show ((fr + u : Nat) : Int) = (fr : Int) + (u : Int) by omega] at hq3
          unfold ptr at hq3
          have he : weR D (fr + u) rs s0 = we3 D (fr + u) rs s0 := by unfold weR; rw [if_neg (by rw [E1.out]; simp), if_neg (by rw [E2.out]; simp)]
          rw [← he] at hq3
          obtain ⟨R3, hR3⟩ : ∃ R3, R3 = weR D (fr + u) rs s0 := ⟨_, rfl⟩
          rw [← hR3] at hq3
          have HR3 := Lib.hid hR3
          obtain ⟨E, hE⟩ : ∃ E, E = erV R3.2 := ⟨_, rfl⟩
          rw [← hE] at hq3
          have HE := Lib.hid hE
          have HQ3 := Lib.hid hq3
          clear hd4 hb4 ht4 HQ2 HLt HGt HDt HBt HTt HRt hq3 he hR3 hE
          go_wp2_with fail
          (with_reducible refine HQ3.out.mono ?_)
          rintro e w5 ⟨rfl, hd5, hb5, ht5⟩
          have HD5 := Lib.hid hd5
          have HB5 := Lib.hid (HB4.out.trans hb5)
          have HT5 := Lib.hid (HT4.out.trans (ht5.x g))
          clear hd5 hb5 ht5 HQ3 x0
          go_wp2
          go_ret
          exact ⟨by rw [← HR3.out, ← HE.out]; rfl, by rw [← HR3.out]; exact HD5.out, HB5.out, HT5.out⟩
        · rw [e2, show erV 11 = .iface 96 (.int .i64 11) from rfl] at hq2
          have HQ2 := Lib.hid hq2
          have E2 := Lib.hid e2
          clear hq2 e2 f2 hL
          go_wp2_with fail
          (with_reducible refine HQ2.out.mono ?_)
          rintro e w4 ⟨rfl, hd4, hb4, ht4⟩
          have HD4 := Lib.hid hd4
          have HB4 := Lib.hid (HBt.out.trans hb4)
          have HT4 := Lib.hid (HTt.out.trans (ht4.x g))
          clear hd4 hb4 ht4 HQ2
          go_wp2
          go_ret
          have he : weR D (fr + u) rs s0 = we2 D (fr + u) rs := by unfold weR; rw [if_neg (by rw [E1.out]; simp), if_pos (by rw [E2.out]; simp)]
          exact ⟨by rw [he, E2.out]; rfl, by rw [he]; exact HD4.out, HB4.out, HT4.out⟩
  · rw [e1, show erV 11 = .iface 96 (.int .i64 11) from rfl] at hq1
    have HQ1 := Lib.hid hq1
    have E1 := Lib.hid e1
    clear hq1 e1 f1
    unfold blB at HQ1
    go_wp2_with fail
    refine HQ1.out.mono ?_
    rintro e w2 ⟨rfl, hd2, hb2, ht2⟩
    have HD2 := Lib.hid hd2
    have HB2 := Lib.hid (HBE.out.trans hb2)
    have HT2 := Lib.hid ((HTY.out.trans ht2).x g)
    clear hd2 hb2 ht2 HQ1
    go_wp2
    go_ret
    have he : weR D (fr + u) rs s0 = we1 D (fr + u) := by unfold weR; rw [if_pos (by rw [E1.out]; simp)]
    exact ⟨by rw [he, E1.out]; rfl, by rw [he]; exact HD2.out, HB2.out, HT2.out⟩
end Go.Proofs.Ytgkenknplepmeaa
