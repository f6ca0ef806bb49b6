/-
  WALK: (*store.Store).Commit, on a disk that is neither armed nor down.
-/
import Derived.Test.YtgkenknplepmeaaSpD
import Derived.Test.YtgkenknplepmeaaSpC
namespace Go.Proofs.Ytgkenknplepmeaa
open Go.RowKit Go.Sort

/-- A store in memory and on its disk, with the rows ro in its struct: what is on the disk comes to rows. -/
def StR (w : World) (base p B ps n u F : Nat) (A : Option Addr) (c : Nat) (ro rows : List Ch) : Prop :=
  ∃ (a fi pl : Nat) (D : Dk) (V : Nat → Value) (rows0 : List Ch) (es : List (List Ch)), Blk w ps tSo #[ptr p, ptr pl, .int .i64 a, .slice A ro.length c] ∧ Blk w pl tLog #[ptr p, .int .i64 (44 : Nat), .int .i64 ((n - 44 : Nat) : Int), .int .i64 fi, .int .i64 u] ∧ base ≤ pl ∧
    KpC w base A ro.length c ro ∧ DkAt w base p B V D ∧ SGood D a fi u rows0 es ∧ D.n = n ∧ ApplyOf (rows0 ++ es.flatten) rows ∧ fi ≤ F ∧ base ≤ ps
theorem StR.save {w : World} {base p B ps n u F c : Nat} {A : Option Addr} {rows : List Ch} (h : StR w base p B ps n u F A c rows rows) (hok : RowsOk rows) (hfew : tmB rows = false) (hF : F ≤ 9000000000) :
    Calls Try.prog 52 #[ptr ps] w fun e w' => e = .returned .nilIface ∧ StR w' base p B ps n 0 (F + 200) A c rows rows ∧ Below base w w' ∧ Fr base w w' ∧ Tq w w' := by
  obtain ⟨a, fi, pl, D, V, rows0, es, h1, h2, h3, h4, h5, h6, h7, h8, h9, h10⟩ := h
  subst h7
  refine (save_any base p B ps pl a fi u rows.length c A V D rows0 rows es w h5 h6 h1 h2 h4 hok hfew (by omega) h10).mono ?_
  rintro e w' ⟨he, pl', f2, D', V', g1, g2, g3, g4, g5, g6, g7, g8, g9, g10, g11⟩
  have := h6.n2
  exact ⟨he, ⟨1 - a, f2, pl', D', V', rows, [], g1, g2, g3, g10, g4, g5, g6, by rw [List.flatten_nil, List.append_nil]; exact hok.apply, by omega, h10⟩, g8, g9, g11⟩
/-- The entry itself, where there is room. -/
theorem StR.log {w : World} {base p B ps n u F c : Nat} {A : Option Addr} {ro rows l r' : List Ch} {Al : Option Addr} {nl cl : Nat} (h : StR w base p B ps n u F A c ro rows) (hl : RdC w w.heap.size Al nl cl l) (hs : ∀ f ∈ l, f.key.size ≤ 20 ∧ f.val.size ≤ 400) (hF : F ≤ 100000000000) (h0 : NoFv (n - 44) u l) (hap : ApplyOf (rows ++ l) r') :
    ∃ pl A1 N1 K1, w.cell? ⟨ps, 1, none⟩ = some (ptr pl) ∧ A1 = Al ∧ N1 = nl ∧ K1 = cl ∧ Calls Try.prog 46 #[ptr pl, .slice Al nl cl] w fun e w' => e = .returned .nilIface ∧ StR w' base p B ps n (u + l.length + 1) F A c ro r' ∧ Below base w w' ∧ Fr base w w' ∧ Tq w w' := by
  obtain ⟨a, fi, pl, D, V, rows0, es, h1, h2, h3, h4, h5, h6, h7, h8, h9, h10⟩ := h
  subst h7
  have hn1 := h6.n1
  have hul := h6.ule
  have hnl := hl.1
  refine ⟨pl, Al, nl, cl, h1.cell 1, rfl, rfl, rfl, ?_⟩
  refine (logAdd_any pl base p B 44 (D.n - 44) fi u Al nl cl l V D w h2 h5 hl hs (by have := h0.1; omega) (by omega) (by omega) hul (h6.flat.wok 1 (by omega)) h3).mono ?_
  rintro e w' ⟨er, D', u', rfl, hla, ⟨V', hd'⟩, hlg, hb, hty⟩
  obtain ⟨rfl, rfl, hnn, hsg⟩ := sgood_add h6 hla h0
  have hps : Blk w' ps tSo _ := hty _ tSo _ h1 (by decide) (by decide) (by decide) (h1.ne h2 (by decide))
  have hfr : Fr base w w' := Fr.of_tyx hty hb h2
  exact ⟨rfl, ⟨a, fi, pl, D', V', rows0, es ++ [l], hps, hlg, h3, h4.keep hfr, hd', hsg, hnn, by
    have := h8.step hap
    rw [List.flatten_append, List.append_assoc] at *
    simpa using this, h9, h10⟩, hb, hfr, Tq.of_tyx hty h2⟩
theorem StR.room {w : World} {base p B ps n u F c : Nat} {A : Option Addr} {ro rows : List Ch} (h : StR w base p B ps n u F A c ro rows) : ∃ pl, w.cell? ⟨ps, 1, none⟩ = some (ptr pl) ∧ 50 ≤ n ∧ n ≤ 120 ∧ u ≤ n - 44 ∧ base ≤ w.heap.size ∧ ∀ W, W.heap = w.heap → Calls Try.prog 44 #[ptr pl] W fun e w' => e = .returned (.int .i64 (((n - 44 : Nat) : Int) - (u : Int))) ∧ ∃ k, w' = W.drewN k := by
  obtain ⟨a, fi, pl, D, V, rows0, es, h1, h2, h3, h4, h5, h6, h7, h8, h9, h10⟩ := h
  subst h7
  have := h6.n2
  have := h6.ule
  refine ⟨pl, h1.cell 1, h6.n1, h6.n2, h6.ule, Nat.le_trans h5.hp (Nat.le_of_lt h5.ltp), fun W hW => ?_⟩
  exact room_any pl p 44 (D.n - 44) fi u W (by unfold Blk; rw [hW]; exact h2) (by omega) (by omega)
theorem StR.heap {w w' : World} {base p B ps n u F c : Nat} {A : Option Addr} {ro rows : List Ch} (h : StR w base p B ps n u F A c ro rows) (hb : Below w.heap.size w w') : StR w' base p B ps n u F A c ro rows := by
  obtain ⟨a, fi, pl, D, V, rows0, es, h1, h2, h3, h4, h5, h6, h7, h8, h9, h10⟩ := h
  have hbw : base ≤ w.heap.size := Nat.le_trans h5.hp (Nat.le_of_lt h5.ltp)
  exact ⟨a, fi, pl, D, V, rows0, es, (hb.block _ h1.lt).trans h1, (hb.block _ h2.lt).trans h2, h3, h4.keep (Fr.of_below hb hbw), h5.keep (fun _ _ hk => hb.block _ hk), h6, h7, h8, h9, h10⟩
def usedR (n u len : Nat) : Nat := (if n - 44 - u < len + 1 then 0 else u) + len + 1

set_option maxRecDepth 100000 in
set_option maxHeartbeats 2000000 in
theorem add_st (base p B ps n u F c : Nat) (A : Option Addr) (rows l r' : List Ch) (Al : Option Addr) (nl cl : Nat) (w : World) (h : StR w base p B ps n u F A c rows rows) (hok : RowsOk rows) (hfew : tmB rows = false) (hl : KpC w base Al nl cl l) (hs : ∀ f ∈ l, f.key.size ≤ 20 ∧ f.val.size ≤ 400) (hF : F ≤ 9000000000)
    (hlen : l.length ≤ 40) (hroom : l.length + 1 ≤ n - 44) (hck : ∀ c ∈ l, ckR c = 0) (hap : ApplyOf (rows ++ l) r') :
    Calls Try.prog 85 #[ptr ps, .slice Al nl cl] w fun e w' => e = .returned .nilIface ∧ StR w' base p B ps n (usedR n u l.length) (F + 200) A c rows r' ∧ Below base w w' ∧ Fr base w w' ∧ Tq w w' := by
  have hnl := hl.1.1
  obtain ⟨pl, c1, hn1, hn2, hun, hbw, hrm⟩ := h.room
  obtain ⟨m, hm⟩ : ∃ m, n - 44 = m := ⟨_, rfl⟩
  rw [hm] at hrm hun
  have HRM := Lib.hid hrm
  have H := Lib.hid h
  have HL := Lib.hid hl
  have hnl1 : (nl : Int) + 1 ≤ 41 := by omega
  clear h hl hrm
  by_cases hc : m - u < l.length + 1
  · have hci : (m : Int) - (u : Int) < (nl : Int) + 1 := by omega
    have HSV := Lib.hid (fun W hW => (H.out.heap (w' := W) hW).save hok hfew hF)
    have hus : usedR n u l.length = 0 + l.length + 1 := by unfold usedR; rw [hm, if_pos hc]
    unfold ptr at *
    go_enter Try.func85, Try.ntmps85
    go_wp2_with fail
    refine (HRM.out _ rfl).mono ?_
    rintro e w1 ⟨rfl, k1, rfl⟩
    go_wp2_with fail
    refine (HSV.out (w.drewN k1) ⟨rfl, rfl, rfl, Nat.le_refl _, fun _ _ => rfl⟩).mono ?_
    rintro e w2 ⟨rfl, hst, hb2, hf2, ht2⟩
    have HT2 := Lib.hid (show Tq w w2 from ht2)
    have hl2 := HL.out.keep (show Fr base w w2 from ⟨hf2.size, hf2.low, hf2.ch, hf2.sl⟩)
    obtain ⟨pl2, _, _, _, c2, _, _, _, had⟩ := hst.log hl2.1 hs (by omega) ⟨hlen, by rw [hm]; omega, hck⟩ hap
    have HAD := Lib.hid had
    have HB2 := Lib.hid (show Below base w w2 from ⟨hb2.os, hb2.tape, hb2.output, hb2.size, hb2.block⟩)
    have HF2 := Lib.hid (show Fr base w w2 from ⟨hf2.size, hf2.low, hf2.ch, hf2.sl⟩)
    unfold ptr at *
    clear had hst hb2 hf2 hl2 ht2
    go_wp2_with fail
    refine HAD.out.mono ?_
    rintro e w3 ⟨rfl, hst3, hb3, hf3, ht3⟩
    have HT3 := Lib.hid (HT2.out.trans ht3)
    clear ht3
    have HS3 := Lib.hid hst3
    have HB3 := Lib.hid (HB2.out.trans hb3)
    have HF3 := Lib.hid (HF2.out.trans hf3)
    clear hst3 hb3 hf3
    go_wp2
    go_ret
    exact ⟨rfl, by rw [hus]; exact HS3.out, HB3.out, HF3.out, HT3.out⟩
  · have hci : decide ((m : Int) - (u : Int) < (nl : Int) + 1) = false := decide_eq_false (by omega)
    have hus : usedR n u l.length = u + l.length + 1 := by unfold usedR; rw [hm, if_neg hc]
    have HLO := Lib.hid (fun W (hW : Below w.heap.size w W) => (H.out.heap (w' := W) hW).log (HL.out.keep (Fr.of_below hW hbw)).1 hs (by omega) ⟨hlen, by rw [hm]; omega, hck⟩ hap)
    unfold ptr at *
    go_enter Try.func85, Try.ntmps85
    go_wp2_with fail
    refine (HRM.out _ rfl).mono ?_
    rintro e w1 ⟨rfl, k1, rfl⟩
    obtain ⟨pl2, _, _, _, c2, _, _, _, had⟩ := HLO.out (w.drewN k1) ⟨rfl, rfl, rfl, Nat.le_refl _, fun _ _ => rfl⟩
    have HAD := Lib.hid had
    clear had
    go_wp2_with fail
    refine HAD.out.mono ?_
    rintro e w3 ⟨rfl, hst3, hb3, hf3, ht3⟩
    have HT3 := Lib.hid (show Tq w w3 from ht3)
    clear ht3
    have HS3 := Lib.hid hst3
    have HB3 := Lib.hid (show Below base w w3 from ⟨hb3.os, hb3.tape, hb3.output, hb3.size, hb3.block⟩)
    have HF3 := Lib.hid (show Fr base w w3 from ⟨hf3.size, hf3.low, hf3.ch, hf3.sl⟩)
    clear hst3 hb3 hf3
    go_wp2
    go_ret
    refine ⟨rfl, ?_, HB3.out, HF3.out, HT3.out⟩
    rw [hus]
    obtain ⟨a, fi, pl3, D, V, rows0, es, h1, h2, h3, h4, h5, h6, h7, h8, h9, h10⟩ := HS3.out
    exact ⟨a, fi, pl3, D, V, rows0, es, h1, h2, h3, h4, h5, h6, h7, h8, by omega, h10⟩
end Go.Proofs.Ytgkenknplepmeaa
namespace Go.Proofs.Ytgkenknplepmeaa
open Go.RowKit Go.Sort

/-- The first change that may not be; whether there are too many. -/
def fvR (l : List Ch) : Int := match l.find? (fun c => decide (ckR c ≠ 0)) with
  | some c => ckR c
  | none => 0
def preR (l : List Ch) : Int := if 40 < l.length then 2 else fvR l
theorem fvR_none {l : List Ch} (h : ∀ c ∈ l, ckR c = 0) : fvR l = 0 := by
  unfold fvR
  rw [List.find?_eq_none.2 (fun c hc => by simp [h c hc])]
theorem fvR_hit {l : List Ch} {k : Nat} {c : Ch} (hk : l[k]? = some c) (hc : ckR c ≠ 0) (h : ∀ (j : Nat) (d : Ch), j < k → l[j]? = some d → ckR d = 0) : fvR l = ckR c := by
  obtain ⟨hkl, hkc⟩ := List.getElem?_eq_some_iff.1 hk
  have e : l = l.take k ++ c :: l.drop (k + 1) := by rw [← hkc, ← List.drop_eq_getElem_cons hkl, List.take_append_drop]
  unfold fvR
  have : l.find? (fun c => decide (ckR c ≠ 0)) = some c := by
    rw [e, List.find?_append, List.find?_eq_none.2 (fun d hd => by
      obtain ⟨j, hj, ej⟩ := List.mem_iff_getElem.1 hd
      rw [List.length_take] at hj
      rw [List.getElem_take] at ej
      simp [h j d (by omega) (by rw [List.getElem?_eq_getElem (by omega), ej])])]
    simp [hc]
  rw [this]
def fullB (n : Nat) (r l : List Ch) : Bool := tmB r || decide (n - 44 < l.length + 1)
def CmPost (w : World) (base p B ps n u F c : Nat) (A : Option Addr) (rows l : List Ch) (e : Ending) (w' : World) : Prop :=
  Below base w w' ∧ Tq w w' ∧ ((preR l ≠ 0 ∧ e = .returned (erV (preR l)) ∧ StR w' base p B ps n u (F + 200) A c rows rows) ∨
    (preR l = 0 ∧ ∃ r, ApplyOf (rows ++ l) r ∧ ((fullB n r l = true ∧ e = .returned (erV 10) ∧ StR w' base p B ps n u (F + 200) A c rows rows) ∨
      (fullB n r l = false ∧ e = .returned .nilIface ∧ ∃ A' c', StR w' base p B ps n (usedR n u l.length) (F + 200) A' c' r r))))
theorem StR.more {w : World} {base p B ps n u F F' c : Nat} {A : Option Addr} {ro rows : List Ch} (h : StR w base p B ps n u F A c ro rows) (hF : F ≤ F') : StR w base p B ps n u F' A c ro rows := by
  obtain ⟨a, fi, pl3, D, V, rows0, es, h1, h2, h3, h4, h5, h6, h7, h8, h9, h10⟩ := h
  exact ⟨a, fi, pl3, D, V, rows0, es, h1, h2, h3, h4, h5, h6, h7, h8, by omega, h10⟩
/-- The struct's rows are others. -/
theorem StR.put {w : World} {base p B ps n u F c : Nat} {A : Option Addr} {ro rows : List Ch} (h : StR w base p B ps n u F A c ro rows) {A' : Option Addr} {c' : Nat} (hk : KpC w base A' rows.length c' rows) :
    w.cell? ⟨ps, 3, none⟩ = some (.slice A ro.length c) ∧ w.frozen? ⟨ps, 3, none⟩ = false ∧ base ≤ ps ∧ Tq w (w.setCell ⟨ps, 3, none⟩ (.slice A' rows.length c')) ∧ StR (w.setCell ⟨ps, 3, none⟩ (.slice A' rows.length c')) base p B ps n u F A' c' rows rows := by
  obtain ⟨a, fi, pl, D, V, rows0, es, h1, h2, h3, h4, h5, h6, h7, h8, h9, h10⟩ := h
  have hne : pl ≠ ps := fun e => by subst e; exact h2.ne h1 (by decide) rfl
  have hfr := (Fr.refl base w).setNew (i := 3) h1 (by decide) (by decide) h10 (.slice A' rows.length c')
  exact ⟨h1.cell 3, h1.free 3, h10, (Tq.refl w).setSo h1 _, a, fi, pl, D, V, rows0, es, h1.set 3 _, h2.other hne _, h3, hk.keep hfr, h5.setG h1 (by decide) (by decide) (by decide) 3 _, h6, h7, h8, h9, h10⟩
theorem StR.see {w : World} {base p B ps n u F c : Nat} {A : Option Addr} {ro rows : List Ch} (h : StR w base p B ps n u F A c ro rows) : w.cell? ⟨ps, 0, none⟩ = some (ptr p) ∧ w.cell? ⟨ps, 3, none⟩ = some (.slice A ro.length c) ∧ KpC w base A ro.length c ro ∧ 50 ≤ n ∧ n ≤ 120 ∧ base ≤ w.heap.size ∧
    Calls Try.prog 81 #[ptr p] w fun e w' => e = .returned (.int .i64 ((n : Int) - 44)) ∧ w = w' := by
  obtain ⟨a, fi, pl, D, V, rows0, es, h1, h2, h3, h4, h5, h6, h7, h8, h9, h10⟩ := h
  subst h7
  exact ⟨h1.cell 0, h1.cell 3, h4, h6.n1, h6.n2, Nat.le_trans h5.hp (Nat.le_of_lt h5.ltp), logSectors_any base p B V D w h5⟩
def CmRel (w : World) (l : List Ch) (v16 : Value) (wr : World) : Prop := ∃ k : Nat, k ≤ l.length ∧ v16 = .int .i64 k ∧ (∀ (j : Nat) (d : Ch), j < k → l[j]? = some d → ckR d = 0) ∧ Below w.heap.size w wr

set_option maxRecDepth 100000 in
set_option maxHeartbeats 4000000 in
theorem commit_any (base p B ps n u F c : Nat) (A : Option Addr) (rows l : List Ch) (Al : Option Addr) (nl cl : Nat) (w : World) (h : StR w base p B ps n u F A c rows rows) (hok : RowsOk rows) (hfew : tmB rows = false) (hl : KpC w base Al nl cl l) (hs : ∀ f ∈ l, f.key.size ≤ 20 ∧ f.val.size ≤ 400) (hF : F ≤ 9000000000) (hnl : nl ≤ 1000) :
    Calls Try.prog 50 #[ptr ps, .slice Al nl cl] w (CmPost w base p B ps n u F c A rows l) := by
  have hll := hl.1.1
  have H := Lib.hid h
  have HL := Lib.hid hl
  have HLL := Lib.hid hll
  have hlc1 := hl.1.2.1
  have hlc2 := hl.1.2.2.1
  unfold maxLen at hlc2
  have hrl := (rows_few hok.ck hfew).2
  have hbw := h.see.2.2.2.2.2.1
  have hnr := h.see.2.2.2.1
  clear h hl
  by_cases h40 : 40 < nl
  · have h40i : (40 : Int) < (nl : Int) := by omega
    have hpre : preR l = 2 := by unfold preR; rw [if_pos (by omega)]
    unfold ptr
    go_enter Try.func50, Try.ntmps50
    go_wp2
    go_ret
    exact ⟨Below.refl _ _, Tq.refl _, .inl ⟨by rw [hpre]; decide, by rw [hpre]; rfl, H.out.more (by omega)⟩⟩
  · have h40i : decide ((40 : Int) < (nl : Int)) = false := decide_eq_false (by omega)
    unfold ptr
    go_enter Try.func50, Try.ntmps50
    go_wp2
    go_loopw [16] (fun v16 wr => CmRel w l v16 wr) (fun i _ => nl - (intOf i).toNat)
    case atStart => exact ⟨0, Nat.zero_le _, rfl, fun j d hj => absurd hj (Nat.not_lt_zero j), Below.refl _ _⟩
    case round =>
      obtain ⟨k, hk, rfl, hno, hbl⟩ := hrel
      rw [HLL.out] at hk
      have HN := Lib.hid hno
      have HB := Lib.hid hbl
      clear hno hbl
      by_cases hlt : k < nl
      · obtain ⟨f, hf⟩ : ∃ f, l[k]? = some f := ⟨_, List.getElem?_eq_getElem (by rw [HLL.out]; exact hlt)⟩
        obtain ⟨b, off, rfl, hbb, y0, y1, y2⟩ := (HL.out.keep (Fr.of_below HB.out hbw)).1.at_ hf
        have hfs := hs f (List.mem_of_getElem? hf)
        have hkn : (k : Int) < (nl : Int) := by omega
        have hb1 : Below wr.heap.size wr (wr.alloc (.cells #[.string f.key, .string f.val, .bool f.gone] tCh)) := (Below.refl _ _).alloc (Nat.le_refl _) _
        have hx := Blk.new wr tCh #[.string f.key, .string f.val, .bool f.gone]
        have z0 := hx.cell 0
        have z1 := hx.cell 1
        have z2 := hx.cell 2
        have HCK := Lib.hid (check_any f (wr.alloc (.cells #[.string f.key, .string f.val, .bool f.gone] tCh)) (by omega))
        unfold Ch.v at HCK
        have HFF := Lib.hid hf
        have HB1 := Lib.hid (HB.out.trans (hb1.mono HB.out.size))
        clear hf hb1 hx
        by_cases hc0 : ckR f = 0
        · rw [hc0, show erV 0 = .nilIface from rfl] at HCK
          go_wp2_with fail
          refine HCK.out.mono ?_
          rintro e w2 ⟨rfl, hb2⟩
          have HB2 := Lib.hid (HB1.out.trans (hb2.mono HB1.out.size))
          clear hb2 HCK
          go_wp2_with fail
          go_roundw
          case rel => exact ⟨k + 1, by rw [HLL.out]; omega, by go_num, fun j d hj hd => by
            rcases Nat.lt_or_ge j k with h1 | h1
            · exact HN.out j d h1 hd
            · obtain rfl : j = k := by omega
              rw [HFF.out] at hd; injection hd with hd; rw [← hd]; exact hc0, HB2.out⟩
          case measure => simp [intOf]; omega
        · have herr : erV (ckR f) = .iface 96 (.int .i64 (ckR f)) := by unfold erV; rw [if_neg hc0]
          have hpre : preR l = ckR f := by unfold preR; rw [if_neg (by rw [HLL.out]; exact h40)]; exact fvR_hit HFF.out hc0 HN.out
          have HPR := Lib.hid hpre
          have HER := Lib.hid herr
          rw [herr] at HCK
          clear herr hpre
          go_wp2_with fail
          refine HCK.out.mono ?_
          rintro e w2 ⟨rfl, hb2⟩
          have HB2 := Lib.hid (HB1.out.trans (hb2.mono HB1.out.size))
          clear hb2 HCK
          go_wp2
          go_ret
          exact ⟨HB2.out.mono hbw, Tq.of_below HB2.out, .inl ⟨by rw [HPR.out]; exact hc0, by rw [HPR.out, HER.out]; rfl, (H.out.heap HB2.out).more (by omega)⟩⟩
      · obtain rfl : k = nl := by omega
        have hck : ∀ f ∈ l, ckR f = 0 := fun f hf => by
          obtain ⟨j, hj, ej⟩ := List.mem_iff_getElem.1 hf
          exact HN.out j f (by rw [← HLL.out]; exact hj) (by rw [List.getElem?_eq_getElem hj, ej])
        have hpre : preR l = 0 := by unfold preR; rw [if_neg (by rw [HLL.out]; exact h40)]; exact fvR_none hck
        have hst := H.out.heap HB.out
        have hl2 := HL.out.keep (Fr.of_below HB.out hbw)
        obtain ⟨c0, c3, hkr, hn1, hn2, hbr, hls⟩ := hst.see
        have hkk : decide ((k : Int) < (k : Int)) = false := decide_eq_false (by omega)
        have HAP := Lib.hid (apply_any A Al rows.length c k cl rows l wr hkr.1 hl2.1 (by omega))
        unfold ApPost at HAP
        have HST := Lib.hid hst
        have HL2 := Lib.hid hl2
        have HPR := Lib.hid hpre
        clear hst hl2 hls hpre
        unfold ptr at *
        go_wp2_with fail
        refine HAP.out.mono ?_
        rintro e w2 ⟨v, r, rfl, ho2, hap, hb2⟩
        obtain ⟨A2, c2, rfl, hk2⟩ := KpC.of_own (b0 := base) ho2
        have hokr : RowsOk r := hap.ok (fun x hx => by
          rcases List.mem_append.1 hx with h1 | h1
          · exact hok.ck x h1
          · exact hck x h1)
        have hrlen := hap.len
        rw [List.length_append, HLL.out] at hrlen
        have HTM := Lib.hid (tooMany_any A2 r.length c2 r w2 hk2.1 (by omega) (fun f hf => by have := ckR_key (hokr.ck f hf); omega))
        have HAPR := Lib.hid hap
        have hst2 := HST.out.heap hb2
        have HL3 := Lib.hid (HL2.out.keep (Fr.of_below hb2 hbr))
        have HB2 := Lib.hid (HB.out.trans (hb2.mono HB.out.size))
        have HST2 := Lib.hid hst2
        have HK2 := Lib.hid hk2
        have hb22 : base ≤ w2.heap.size := Nat.le_trans hbr hb2.size
        clear ho2 hap hb2 hst2 hk2 HAP c0 c3 hkr HST HL2 HB
        go_wp2_with fail
        refine HTM.out.mono ?_
        rintro e w3 ⟨rfl, hb3⟩
        have hst3 := HST2.out.heap hb3
        have HST3 := Lib.hid hst3
        have HL4 := Lib.hid (HL3.out.keep (Fr.of_below hb3 hb22))
        have HK3 := Lib.hid (HK2.out.keep (Fr.of_below hb3 hb22))
        have HB3 := Lib.hid (HB2.out.trans (hb3.mono HB2.out.size))
        obtain ⟨c0, _, _, _, _, hb33, hls⟩ := hst3.see
        obtain ⟨m, hm⟩ : ∃ m, n - 44 = m := ⟨_, rfl⟩
        have hmi : (n : Int) - 44 = (m : Int) := by omega
        rw [hmi] at hls
        have HLS := Lib.hid hls
        have hk1i : IntKind.i64.wrap ((k : Int) + 1) = (k : Int) + 1 := by rw [IntKind.wrap_i64]; omega
        unfold ptr at *
        clear hb3 hst3 hls HTM HST2 HL3 HB2 HK2
        by_cases htm : tmB r = true
        · have hfu : fullB n r l = true := by unfold fullB; rw [htm]; rfl
          have HFU := Lib.hid hfu
          rw [htm]
          clear htm hfu
          go_wp2
          go_ret
          exact ⟨HB3.out.mono hbw, Tq.of_below HB3.out, .inr ⟨HPR.out, r, HAPR.out, .inl ⟨HFU.out, rfl, HST3.out.more (by omega)⟩⟩⟩
        · have htm2 : tmB r = false := by cases h : tmB r with
            | false => rfl
            | true => exact absurd h htm
          rw [htm2]
          by_cases hroom : m < k + 1
          · have hri : (m : Int) < (k : Int) + 1 := by omega
            have hfu : fullB n r l = true := by unfold fullB; rw [htm2, hm, HLL.out, decide_eq_true hroom]; rfl
            have HFU := Lib.hid hfu
            clear htm hfu
            go_wp2_with (go_at_call 81; refine HLS.out.mono ?_; rintro e wq ⟨rfl, rfl⟩)
            go_ret
            exact ⟨HB3.out.mono hbw, Tq.of_below HB3.out, .inr ⟨HPR.out, r, HAPR.out, .inl ⟨HFU.out, rfl, HST3.out.more (by omega)⟩⟩⟩
          · have hri : decide ((m : Int) < (k : Int) + 1) = false := decide_eq_false (by omega)
            have hfu : fullB n r l = false := by unfold fullB; rw [htm2, hm, HLL.out, decide_eq_false hroom]; rfl
            have HFU := Lib.hid hfu
            have HAD := Lib.hid (add_st base p B ps n u F c A rows l r Al k cl w3 HST3.out hok hfew HL4.out hs hF (by rw [HLL.out]; omega) (by rw [HLL.out, hm]; omega) hck HAPR.out)
            clear htm hfu
            unfold ptr at HAD
            go_wp2_with (go_at_call 81; refine HLS.out.mono ?_; rintro e wq ⟨rfl, rfl⟩)
            refine HAD.out.mono ?_
            rintro e w4 ⟨rfl, hst4, hb4, hf4, ht4⟩
            obtain ⟨e3, g3, hbp, hfr5, hst5⟩ := hst4.put (HK3.out.keep hf4)
            have HST5 := Lib.hid hst5
            have HB5 := Lib.hid (((HB3.out.mono hbw).trans hb4).setCell (p := ⟨ps, 3, none⟩) hbp (.slice A2 r.length c2))
            have HF5 := Lib.hid (((Tq.of_below HB3.out).trans ht4).trans hfr5)
            clear hst4 hb4 hf4 hst5 hfr5 ht4
            go_wp2
            go_ret
            exact ⟨HB5.out, HF5.out, .inr ⟨HPR.out, r, HAPR.out, .inr ⟨HFU.out, rfl, A2, c2, HST5.out⟩⟩⟩
end Go.Proofs.Ytgkenknplepmeaa
