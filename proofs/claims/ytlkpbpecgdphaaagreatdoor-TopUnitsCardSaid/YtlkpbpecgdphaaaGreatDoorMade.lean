/-
  PLAIN: what graphR leaves. WALK: hammerpondtop.made (the closed fact).
-/
import Derived.Test.YtlkpbpecgdphaaaGreatDoorGt
import Derived.Test.YtlkpbpecgdphaaaGreatDoorName
import Derived.Test.YtlkpbpecgdphaaaGreatDoorParse
import Derived.Test.YtlkpbpecgdphaaaGreatDoorWell
import Derived.Test.YtlkpbpecgdphaaaGreatDoorTexts
namespace Go.Proofs.YtlkpbpecgdphaaaGreatDoor
open Go.RowKit

/-- What graph.Of gives: an error's number, and groups if it is 0. -/
def graphR (m : Mk) (l : List F) (goal : ByteArray) : Nat × List Gp :=
  if nameB goal = true then (if (visitR m l ((univ m l goal).length + 1) goal [] []).1 = 0 then visitR m l ((univ m l goal).length + 1) goal [] [] else ((visitR m l ((univ m l goal).length + 1) goal [] []).1, [])) else (3, [])
/-- Groups in a slice of one's own. -/
structure GpS (w : World) (A : Option Addr) (n c : Nat) (out : List Gp) : Prop where
  ex : ∃ R4, GpRd w A n c out R4
theorem GpRd.nil (w : World) : GpRd w none 0 0 [] [] := ⟨⟨rfl, Nat.le_refl _, Nat.zero_le _, fun h => by omega⟩, rfl, fun i x g h => by simp at h⟩
def OfPost (m : Mk) (l : List F) (goal : ByteArray) (w : World) (e : Ending) (w' : World) : Prop :=
  ∃ A c R4, e = .returned (.tuple #[.slice A (graphR m l goal).2.length c, errV (graphR m l goal).1]) ∧ GpRd w' A (graphR m l goal).2.length c (graphR m l goal).2 R4 ∧ Below w.heap.size w w'
theorem univ_len {m : Mk} {l : List F} {goal : ByteArray} (hL : Lim m) (hl : l.length ≤ 10000) : (univ m l goal).length ≤ 30001 := by
  unfold univ
  have key : ∀ rs : List Ru, (∀ r ∈ rs, r.1.length ≤ 10 ∧ r.2.1.length ≤ 10) → (rs.flatMap (fun r => r.1 ++ r.2.1)).length ≤ rs.length * 20 := by
    intro rs
    induction rs with
    | nil => simp
    | cons r rs ih =>
      intro h
      have h1 := h r (by simp)
      have h2 := ih (fun r hr => h r (by simp [hr]))
      rw [List.flatMap_cons, List.length_append, List.length_append, List.length_cons]
      omega
  have h1 := key m.rules (fun r hr => ⟨hL.tgs r hr, hL.nds r hr⟩)
  have h2 := hL.rules
  rw [List.length_cons, List.length_append, List.length_map]
  omega
theorem univ_size {m : Mk} {l : List F} {goal : ByteArray} (hL : Lim m) (hg : goal.size ≤ 1000) (hf : ∀ f ∈ l, f.1.size ≤ 1000) : ∀ x ∈ univ m l goal, x.size ≤ 1000 := by
  intro x hx
  unfold univ at hx
  rcases List.mem_cons.1 hx with rfl | hx
  · exact hg
  rcases List.mem_append.1 hx with hx | hx
  · obtain ⟨f, hfm, rfl⟩ := List.mem_map.1 hx
    exact hf f hfm
  · obtain ⟨r, hr, hx⟩ := List.mem_flatMap.1 hx
    rcases List.mem_append.1 hx with hx | hx
    · exact hL.tsz r hr x hx
    · exact hL.nsz r hr x hx
set_option maxRecDepth 100000 in
set_option maxHeartbeats 4000000 in
theorem of_any (m : Mk) (l : List F) (goal : ByteArray) (vv vr vp : Value) (R : List Row3) (Af : Option Addr) (cf : Nat) (w : World) (h : MkRd w m vv vr vp R) (hf : RdF w w.heap.size Af l.length cf l) (hL : Lim m) (hu : UniqT m) (hs : Rises l) (hl : l.length ≤ 10000) (hg : goal.size ≤ 1000) (hfs : ∀ f ∈ l, f.1.size ≤ 1000) (hm : MaxOk w) :
    Calls Tryz.prog 11 #[.agg #[vv, vr, vp], .slice Af l.length cf, .string goal] w (OfPost m l goal w) := by
  have hmm := @run_makeMap Tryz.prog
  have hb0 : Below w.heap.size w (w.alloc (.cells #[vv, vr, vp] 29)) := (Below.refl _ _).alloc (Nat.le_refl _) _
  have p0 := Blk.new w 29 #[vv, vr, vp]
  have hM := h.belowS hb0
  have HMR := Lib.hid (show MRd (w.alloc (.cells #[vv, vr, vp] 29)) m l vr vp (.slice Af l.length cf) R from ⟨hM.rules, hM.len, hM.each, hM.phony, ⟨_, _, rfl, hf.belowS hb0⟩, hm.below hb0⟩)
  obtain ⟨Ar, cr, hvr, -⟩ := hM.rules
  obtain ⟨Ap, cp, hvp, -⟩ := hM.phony
  subst hvr hvp
  have HB0 := Lib.hid hb0
  have P0 := Lib.hid p0
  have HL := Lib.hid hL
  have HU := Lib.hid hu
  have HS := Lib.hid hs
  have HFS := Lib.hid hfs
  have q1 : (w.alloc (.cells #[vv, .slice Ar R.length cr, .slice Ap m.phony.length cp] 29)).cell? ⟨w.heap.size, 1, none⟩ = some (.slice Ar R.length cr) := p0.cell 1
  have q2 : (w.alloc (.cells #[vv, .slice Ar R.length cr, .slice Ap m.phony.length cp] 29)).cell? ⟨w.heap.size, 2, none⟩ = some (.slice Ap m.phony.length cp) := p0.cell 2
  obtain ⟨gr, hgr⟩ : ∃ gr, gr = graphR m l goal := ⟨_, rfl⟩
  have HGR := Lib.hid hgr
  have HPOST := Lib.hid (show ∀ e w', (∃ A c R4, e = .returned (.tuple #[.slice A gr.2.length c, errV gr.1]) ∧ GpRd w' A gr.2.length c gr.2 R4 ∧ Below w.heap.size w w') → OfPost m l goal w e w' from fun e w' h => by rw [hgr] at h; exact h)
  clear h hf hL hu hs hfs hm hb0 p0 hM hgr
  cases hnb : nameB goal with
  | false =>
    have hgr := HGR.out
    unfold graphR at hgr
    rw [if_neg (by rw [hnb]; simp)] at hgr
    subst hgr
    have HC := Lib.hid (name_any goal (w.alloc (.cells #[vv, .slice Ar R.length cr, .slice Ap m.phony.length cp] 29)) (by omega))
    rw [hnb] at HC
    go_enter Tryz.func11, Tryz.ntmps11
    go_wp2_with fail
    refine HC.out.mono ?_
    rintro e w1 ⟨rfl, rfl⟩
    go_wp2
    go_ret2
    exact HPOST.out _ _ ⟨none, 0, [], rfl, GpRd.nil _, HB0.out⟩
  | true =>
    have hgr := HGR.out
    unfold graphR at hgr
    rw [if_pos hnb] at hgr
    have HC := Lib.hid (name_any goal (w.alloc (.cells #[vv, .slice Ar R.length cr, .slice Ap m.phony.length cp] 29)) (by omega))
    rw [hnb] at HC
    have HGR2 := Lib.hid hgr
    clear hgr hnb
    go_enter Tryz.func11, Tryz.ntmps11
    go_wp2_with fail
    generalize w.alloc (.cells #[vv, .slice Ar R.length cr, .slice Ap m.phony.length cp] 29) = w1 at *
    refine HC.out.mono ?_
    rintro e w1' ⟨rfl, rfl⟩
    have e1 : (w1.alloc (.map #[] 0)).heap.size = w1.heap.size + 1 := by simp
    have bA : Below w1.heap.size w1 ((w1.alloc (.map #[] 0)).alloc (.cells #[.slice Ar R.length cr, .slice Ap m.phony.length cp, .slice Af l.length cf, .map (some w1.heap.size), .slice none 0 0] tWk)) := ((Below.refl _ w1).alloc (Nat.le_refl _) _).alloc (by simp) _
    have pk : Blk ((w1.alloc (.map #[] 0)).alloc (.cells #[.slice Ar R.length cr, .slice Ap m.phony.length cp, .slice Af l.length cf, .map (some w1.heap.size), .slice none 0 0] tWk)) (w1.heap.size + 1) tWk #[.slice Ar R.length cr, .slice Ap m.phony.length cp, .slice Af l.length cf, .map (some w1.heap.size), .slice none 0 0] := by
      have := Blk.new (w1.alloc (.map #[] 0)) tWk #[.slice Ar R.length cr, .slice Ap m.phony.length cp, .slice Af l.length cf, .map (some w1.heap.size), .slice none 0 0]
      rwa [e1] at this
    have hset : SetOk ((w1.alloc (.map #[] 0)).alloc (.cells #[.slice Ar R.length cr, .slice Ap m.phony.length cp, .slice Af l.length cf, .map (some w1.heap.size), .slice none 0 0] tWk)) w1.heap.size 0 [] := (SetOk.made w1).below ((Below.refl _ _).alloc (Nat.le_refl _) _)
    have hwk : Wk w1 ((w1.alloc (.map #[] 0)).alloc (.cells #[.slice Ar R.length cr, .slice Ap m.phony.length cp, .slice Af l.length cf, .map (some w1.heap.size), .slice none 0 0] tWk)) (w1.heap.size + 1) w1.heap.size (.slice Ar R.length cr) (.slice Ap m.phony.length cp) (.slice Af l.length cf) (.slice none 0 0) (10 * ([] : List Gp).length + 0) [] [] [] :=
      ⟨bA, pk, by omega, Nat.le_refl _, ⟨0, Nat.le_refl _, hset⟩, World.ownsRow_nil _ _ _ _, rfl, fun i x g hx => by simp at hx⟩
    have hul := univ_len (m := m) (l := l) (goal := goal) HL.out hl
    have hvis := visit_any w1 (w1.heap.size + 1) w1.heap.size m l goal _ _ _ R HMR.out HL.out HU.out HS.out (by omega) (univ_size HL.out hg HFS.out) ((univ m l goal).length + 1) goal [] [] 0 _ [] _ (by unfold univ; simp) (Nat.lt_succ_of_le (List.length_filter_le _ _)) way_nil (by omega) ⟨by simp, by simp⟩ hwk
    have HVI := Lib.hid hvis
    have HWK := Lib.hid hwk
    clear bA pk hset hwk hvis
    go_wp2_with fail
    generalize (w1.alloc (.map #[] 0)).alloc (.cells #[.slice Ar R.length cr, .slice Ap m.phony.length cp, .slice Af l.length cf, .map (some w1.heap.size), .slice none 0 0] tWk) = w2 at *
    refine HVI.out.mono ?_
    rintro e w3 ⟨rfl, hbl, hok⟩
    revert HGR2 hok
    generalize visitR m l ((univ m l goal).length + 1) goal [] [] = q
    intro HGR2 hok
    by_cases h0 : q.1 = 0
    · obtain ⟨vg, R4, hwk3, hfv, hnv⟩ := hok h0
      have hgr := HGR2.out
      rw [if_pos h0] at hgr
      subst hgr
      have he : errV (gr.1 : Int) = .nilIface := by rw [h0]; rfl
      rw [he]
      obtain ⟨A, c, hv, hrd⟩ := hwk3.rd4
      subst hv
      have d4 : w3.cell? ⟨w1.heap.size + 1, 4, none⟩ = some (.slice A gr.2.length c) := hwk3.blk.cell 4
      have HX := Lib.hid (HPOST.out (.returned (.tuple #[.slice A gr.2.length c, errV gr.1])) w3 ⟨A, c, R4, rfl, hrd, HB0.out.trans (hbl.mono HB0.out.size)⟩)
      rw [he] at HX
      clear hok hwk3 hfv hnv hbl hrd HGR
      go_wp2
      go_ret2
      exact HX.out
    · have hgr := HGR2.out
      rw [if_neg h0] at hgr
      have he : errV (q.1 : Int) = .iface 80 (.int .i64 (q.1 : Int)) := by unfold errV; rw [if_neg (by omega)]
      have hx := HPOST.out (.returned (.tuple #[.slice none 0 0, errV q.1])) w3 (by rw [hgr]; exact ⟨none, 0, [], rfl, GpRd.nil _, HB0.out.trans (hbl.mono HB0.out.size)⟩)
      rw [he] at hx ⊢
      have HX := Lib.hid hx
      clear hok hbl hgr hx HGR
      go_wp2
      go_ret2
      exact HX.out
end Go.Proofs.YtlkpbpecgdphaaaGreatDoor
namespace Go.Proofs.YtlkpbpecgdphaaaGreatDoor
open Go

theorem linesR_sane3 (l : List ByteArray) (h : ∀ x ∈ l, x.size ≤ 600) : ∀ (m : Mk) (k : Nat), Sane m k → Sane (linesR m l).2 (k + l.length) := by
  induction l with
  | nil => intro m k hs; exact hs
  | cons x l ih =>
    intro m k hs
    have h1 := hs.line x (h x (by simp))
    rw [linesR]
    split
    · have := ih (fun y hy => h y (by simp [hy])) _ _ h1
      simpa [Nat.add_assoc, Nat.add_comm 1] using this
    · exact h1.mono (by simp)
theorem parse_sane3 (s : ByteArray) : Sane (parseR s).2 700 := by
  unfold parseR
  split
  · exact sane0.mono (by omega)
  · rename_i h6
    split
    · exact sane0.mono (by omega)
    · split
      · have h1 := linesR_sane3 (lines s) (fun x hx => by have := lines_size hx; omega) mk0 0 sane0
        have h2 := lines_len s
        exact h1.mono (by omega)
      · exact sane0.mono (by omega)
/-- How the rules and phony names of a description look while it is read. -/
structure Shp (m : Mk) : Prop where
  ne : ∀ r ∈ m.rules, r.1 ≠ []
  shp : ∀ r ∈ m.rules, shapedR r.1 r.2.1 = true
  cmd : ∀ r ∈ m.rules, ∀ c ∈ r.2.2, c.size ≤ 28
  pho : ∀ x ∈ m.phony, nameB x = true
theorem shp0 : Shp mk0 := ⟨by simp [mk0], by simp [mk0], by simp [mk0], by simp [mk0]⟩
theorem moreCmd_mem2 {l : List Ru} {c : ByteArray} : ∀ r ∈ moreCmd l c, ∃ q ∈ l, r.1 = q.1 ∧ r.2.1 = q.2.1 ∧ ∀ x ∈ r.2.2, x ∈ q.2.2 ∨ x = c := by
  fun_induction moreCmd l c with
  | case1 => simp
  | case2 r c =>
    intro x hx
    simp at hx
    subst hx
    exact ⟨r, by simp, rfl, rfl, fun y hy => by simpa using hy⟩
  | case3 r s l c ih =>
    intro x hx
    rcases List.mem_cons.1 hx with rfl | hx
    · exact ⟨x, by simp, rfl, rfl, fun y hy => .inl hy⟩
    · obtain ⟨q, hq, h⟩ := ih x hx
      exact ⟨q, List.mem_cons_of_mem _ hq, h⟩
theorem Shp.line {m : Mk} (h : Shp m) (s : ByteArray) : Shp (lineR m s).2 := by
  unfold lineR
  split
  · exact h
  · split
    · unfold cmdR
      split
      · exact h
      · split
        · exact h
        · split
          · exact h
          · rename_i hc
            have key := fun r hr => moreCmd_mem2 (l := m.rules) (c := ba (expR m.vars 5 (s.extract 1 s.size).data.toList).2) r hr
            refine ⟨fun r hr => ?_, fun r hr => ?_, fun r hr c hcm => ?_, h.pho⟩
            · obtain ⟨q, hq, e1, _⟩ := key r hr
              rw [e1]; exact h.ne q hq
            · obtain ⟨q, hq, e1, e2, _⟩ := key r hr
              rw [e1, e2]; exact h.shp q hq
            · obtain ⟨q, hq, _, _, e3⟩ := key r hr
              rcases e3 c hcm with h1 | h1
              · exact h.cmd q hq c h1
              · rw [h1, ba_size]; omega
    · split
      · unfold phonyR
        split
        · exact h
        · rename_i hp
          refine ⟨h.ne, h.shp, h.cmd, fun x hx => ?_⟩
          rcases List.mem_append.1 hx with hx | hx
          · exact h.pho x hx
          · simp at hx
            subst hx
            cases hn : nameB (s.extract 6 s.size) with
            | true => rfl
            | false => exact absurd (.inl hn) hp
      · split
        · unfold varR
          split
          · exact h
          · split
            · exact h
            · exact ⟨h.ne, h.shp, h.cmd, h.pho⟩
        · unfold ruleR
          split
          · exact h
          · unfold headR
            split
            · exact h
            · rename_i h0
              split
              · exact h
              · split
                · exact h
                · rename_i h2
                  refine ⟨fun r hr => ?_, fun r hr => ?_, fun r hr => ?_, h.pho⟩
                  · rcases List.mem_append.1 hr with hr | hr
                    · exact h.ne r hr
                    · simp at hr; subst hr
                      intro e
                      exact h0 (.inr (by rw [show wordsR (Lib.cut (expR m.vars 5 s.data.toList).2 [58]).1 = [] from e]; rfl))
                  · rcases List.mem_append.1 hr with hr | hr
                    · exact h.shp r hr
                    · simp at hr; subst hr
                      simpa using h2
                  · rcases List.mem_append.1 hr with hr | hr
                    · exact h.cmd r hr
                    · simp at hr; subst hr
                      simp
theorem linesR_shp : ∀ (l : List ByteArray) (m : Mk), Shp m → Shp (linesR m l).2 := by
  intro l
  induction l with
  | nil => exact fun m h => h
  | cons x l ih =>
    intro m h
    rw [linesR]
    split
    · exact ih _ (h.line x)
    · exact h.line x
theorem parse_shp (s : ByteArray) : Shp (parseR s).2 := by
  unfold parseR
  split
  · exact shp0
  · split
    · exact shp0
    · split
      · exact linesR_shp _ _ shp0
      · exact shp0
theorem shaped_word {T N : List ByteArray} (h : shapedR T N = true) : ∀ x ∈ T ++ N, nameB (onceR x) = true := by
  intro x hx
  unfold shapedR at h
  rw [Bool.and_eq_true] at h
  obtain ⟨i, hi, e⟩ := List.mem_iff_getElem.1 hx
  have := List.all_eq_true.1 h.2 i (List.mem_range.2 hi)
  rw [List.getElem?_eq_getElem hi, e] at this
  unfold wordOk at this
  rw [Bool.and_eq_true, Bool.and_eq_true] at this
  exact this.1.1
theorem nameB_size {x : ByteArray} (h : nameB x = true) : x.size ≤ 8 := by
  rcases Nat.lt_or_ge 8 x.size with h1 | h1
  · rw [nameB_short (.inr h1)] at h; cases h
  · exact h1
theorem shaped_size {T N : List ByteArray} (h : shapedR T N = true) : ∀ x ∈ T ++ N, x.size ≤ 8 := fun x hx => by
  have := nameB_size (shaped_word h x hx)
  rwa [onceR_size] at this
theorem parse_lim (s : ByteArray) : Lim (parseR s).2 := by
  have h1 := parse_sane3 s
  have h2 := parse_shp s
  exact ⟨by have := h1.rules; omega, h2.ne, fun r hr => by have := (h1.cmds r hr).1; omega, fun r hr => by have := (h1.cmds r hr).2.1; omega, fun r hr => by have := (h1.cmds r hr).2.2; omega,
    fun r hr x hx => by have := shaped_size (h2.shp r hr) x (List.mem_append_left _ hx); omega, fun r hr x hx => by have := shaped_size (h2.shp r hr) x (List.mem_append_right _ hx); omega,
    fun r hr c hc => by have := h2.cmd r hr c hc; omega, by have := h1.phony; omega⟩
theorem checkGo_made {ph : List ByteArray} : ∀ (l : List Ru) (made : List ByteArray), (checkGo ph made l).1 = true → ∀ r ∈ l, ∀ t ∈ r.1, t ∉ made := by
  intro l
  induction l with
  | nil => intro _ _ r hr; cases hr
  | cons r l ih =>
    intro made h q hq t ht
    rw [checkGo] at h
    split at h
    · rename_i ha
      rcases List.mem_cons.1 hq with rfl | hq
      · unfold agreesR at ha
        rw [Bool.and_eq_true] at ha
        have := List.all_eq_true.1 ha.1 t ht
        intro hm
        rw [inT_mem.2 hm] at this
        cases this
      · exact fun hm => ih _ h q hq t ht (List.mem_append_left _ hm)
    · cases h
theorem checkGo_uniq {ph : List ByteArray} : ∀ (l : List Ru) (made : List ByteArray), (checkGo ph made l).1 = true → ∀ r ∈ l, ∀ r' ∈ l, ∀ x, x ∈ r.1 → x ∈ r'.1 → r.1 = r'.1 := by
  intro l
  induction l with
  | nil => intro _ _ r hr; cases hr
  | cons q l ih =>
    intro made h r hr r' hr' x hx hx'
    rw [checkGo] at h
    split at h
    · have hm := checkGo_made l _ h
      rcases List.mem_cons.1 hr with rfl | hr
      · rcases List.mem_cons.1 hr' with rfl | hr'
        · rfl
        · exact absurd (List.mem_append_right _ hx) (hm r' hr' x hx')
      · rcases List.mem_cons.1 hr' with e | hr2'
        · rw [e] at hx'
          exact absurd (List.mem_append_right _ hx') (hm r hr x hx)
        · exact ih _ h r hr r' hr2' x hx hx'
    · cases h
theorem parse_uniq (s : ByteArray) : UniqT (parseR s).2 := by
  unfold parseR
  have h0 : UniqT mk0 := fun r hr => by cases hr
  split
  · exact h0
  · split
    · exact h0
    · split
      · rename_i h
        unfold checkR at h
        rw [Bool.and_eq_true] at h
        exact checkGo_uniq _ _ h.1
      · exact h0
end Go.Proofs.YtlkpbpecgdphaaaGreatDoor
namespace Go.Proofs.YtlkpbpecgdphaaaGreatDoor
open Go.RowKit

def made0 : ByteArray := ⟨#[98, 32, 58, 32, 97, 10, 9, 99, 111, 112, 121, 32, 97, 32, 98, 10]⟩
set_option maxRecDepth 100000 in
theorem parse_made : (parseR made0).1 = 0 := by decide +kernel
set_option maxRecDepth 100000 in
theorem graph_made : (graphR (parseR made0).2 [(⟨#[97]⟩, ⟨#[]⟩)] ⟨#[98]⟩).1 = 0 ∧ (graphR (parseR made0).2 [(⟨#[97]⟩, ⟨#[]⟩)] ⟨#[98]⟩).2.length = 1 := by decide +kernel
theorem room_nil (U : List ByteArray) : room U [] < U.length + 1 := Nat.lt_succ_of_le (List.length_filter_le _ _)
theorem graph_ok {m : Mk} {l : List F} {goal : ByteArray} (hu : UniqT m) (h0 : (graphR m l goal).1 = 0) : OutOk m l (graphR m l goal).2 ∧ (((graphR m l goal).2 = [] ∧ has l goal = true) ∨ ∃ o g, (graphR m l goal).2 = o ++ [g] ∧ goal ∈ g.tg) := by
  unfold graphR at h0 ⊢
  split at h0
  · rename_i hn
    rw [if_pos hn]
    split at h0
    · rename_i h1
      rw [if_pos h1]
      obtain ⟨ext, e, _, hok, _⟩ := visit_left (goal := goal) hu ((univ m l goal).length + 1) goal [] [] way_nil (by unfold univ; simp) (room_nil _) outOk_nil h1
      exact ⟨by rw [e]; exact hok, goal_last h1⟩
    · rename_i h1; exact absurd h0 h1
  · cases h0
theorem graph_err {m : Mk} {l : List F} {goal : ByteArray} (h0 : (graphR m l goal).1 ≠ 0) : (graphR m l goal).2 = [] := by
  unfold graphR at h0 ⊢
  split
  · rename_i hn
    rw [if_pos hn] at h0
    split
    · rename_i h1; rw [if_pos h1] at h0; exact absurd h1 h0
    · rfl
  · rfl
theorem graph_few {m : Mk} {l : List F} {goal : ByteArray} (hL : Lim m) : FewG (graphR m l goal).2 := by
  unfold graphR
  split
  · split
    · exact visit_few hL _ _ _ _ ⟨by simp, by simp⟩
    · exact ⟨by simp, by simp⟩
  · exact ⟨by simp, by simp⟩
set_option maxHeartbeats 4000000 in
set_option maxRecDepth 100000 in
theorem made_any (w : World) (hm : MaxOk w) : Calls Tryz.prog 26 #[] w fun e w' => e = .returned (.bool true) ∧ Below w.heap.size w w' := by
  have HM := Lib.hid hm
  obtain ⟨q, hq⟩ : ∃ q, q = parseR made0 := ⟨_, rfl⟩
  have hp := parse_any made0 w hm (by decide)
  unfold PaPost at hp
  rw [← hq] at hp
  have h1 : q.1 = 0 := by rw [hq]; exact parse_made
  have hg : (graphR q.2 [(⟨#[97]⟩, ⟨#[]⟩)] ⟨#[98]⟩).1 = 0 ∧ (graphR q.2 [(⟨#[97]⟩, ⟨#[]⟩)] ⟨#[98]⟩).2.length = 1 := by rw [hq]; exact graph_made
  have HL := Lib.hid (show Lim q.2 by rw [hq]; exact parse_lim _)
  have HU := Lib.hid (show UniqT q.2 by rw [hq]; exact parse_uniq _)
  have HP := Lib.hid hp
  have HG := Lib.hid hg
  clear hm hq hp hg
  obtain ⟨q1, m⟩ := q
  dsimp only at h1 HL HU HP HG
  subst h1
  rw [errV_zero] at HP
  have key : ∀ (A : Option Addr) (vv vr vp : Value) (R : List Row3) (W : World), MkRd W m vv vr vp R → RdF W W.heap.size A 1 1 [(⟨#[97]⟩, ⟨#[]⟩)] → MaxOk W → Calls Tryz.prog 11 #[.agg #[vv, vr, vp], .slice A 1 1, .string ⟨#[98]⟩] W fun e w' => (∃ A' c', e = .returned (.tuple #[.slice A' 1 c', .nilIface])) ∧ Below W.heap.size W w' := fun A vv vr vp R W h1 h2 h3 =>
    (of_any m [(⟨#[97]⟩, ⟨#[]⟩)] ⟨#[98]⟩ vv vr vp R A 1 W h1 h2 HL.out HU.out (List.pairwise_singleton _ _) (Nat.le_of_lt_succ (by decide)) (by decide) (fun f hf => by rw [List.mem_singleton.1 hf]; decide) h3).mono fun e w' h => by
      obtain ⟨A', c', R', rfl, _, hb⟩ := h
      exact ⟨⟨A', c', by rw [HG.out.1, HG.out.2]; rfl⟩, hb⟩
  have KEY := Lib.hid key
  clear key HG HL HU
  go_enter Tryz.func26, Tryz.ntmps26
  go_wp2_with fail
  refine HP.out.mono ?_
  rintro e w1 ⟨vv, vr, vp, R, rfl, hmo, hb1⟩
  obtain ⟨Av, cv, rfl⟩ := own_slice hmo.vars
  obtain ⟨Ar, cr, rfl⟩ := own_slice hmo.rules
  obtain ⟨Ap, cp, rfl⟩ := own_slice hmo.phony
  have hba : Below w1.heap.size w1 (w1.alloc (.cells #[.slice Av m.vars.length cv, .slice Ar R.length cr, .slice Ap m.phony.length cp] 29)) := (Below.refl _ _).alloc (Nat.le_refl _) _
  have pm := Blk.new w1 29 #[.slice Av m.vars.length cv, .slice Ar R.length cr, .slice Ap m.phony.length cp]
  have x0 := pm.cell 0
  have x1 := pm.cell 1
  have x2 := pm.cell 2
  have he2 : (w1.alloc (.cells #[.slice Av m.vars.length cv, .slice Ar R.length cr, .slice Ap m.phony.length cp] 29)).heap.size = w1.heap.size + 1 := by simp
  have HO := Lib.hid (hmo.below hba)
  have HB := Lib.hid (hb1.trans (hba.mono hb1.size))
  have HM2 := Lib.hid (HM.out.below (hb1.trans (hba.mono hb1.size)))
  clear hmo hb1 hba pm
  go_wp2_with fail
  generalize w1.alloc (.cells #[.slice Av m.vars.length cv, .slice Ar R.length cr, .slice Ap m.phony.length cp] 29) = w2 at *
  have hbb : Below w2.heap.size w2 (w2.alloc (.cells #[.string ⟨#[97]⟩, .string ⟨#[]⟩] tFi)) := (Below.refl _ _).alloc (Nat.le_refl _) _
  have hsz : (w2.alloc (.cells #[.string ⟨#[97]⟩, .string ⟨#[]⟩] tFi)).heap.size = w2.heap.size + 1 := by simp
  have hrf : RdF (w2.alloc (.cells #[.string ⟨#[97]⟩, .string ⟨#[]⟩] tFi)) (w2.alloc (.cells #[.string ⟨#[97]⟩, .string ⟨#[]⟩] tFi)).heap.size (some ⟨w1.heap.size + 1, 0, none⟩) 1 1 [(⟨#[97]⟩, ⟨#[]⟩)] := by rw [hsz, ← he2]; exact RdF_1 w2 _ _ tFi
  refine (KEY.out _ _ _ _ R _ (HO.out.below hbb).rd hrf (HM2.out.below hbb)).mono ?_
  rintro e w3 ⟨⟨A3, c3, rfl⟩, hb3⟩
  have HB3 := Lib.hid ((HB.out.trans (hbb.mono HB.out.size)).trans (hb3.mono (HB.out.trans (hbb.mono HB.out.size)).size))
  clear hbb hsz hrf hb3
  go_wp2
  go_ret
  exact ⟨rfl, HB3.out⟩
end Go.Proofs.YtlkpbpecgdphaaaGreatDoor
