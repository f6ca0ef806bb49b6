/-
  PLAIN: what graphR leaves. WALK: hammerpondtop.made (the closed fact).
-/
import Derived.Test.YtlkpbpecgdphaaaGreatDoorGvs
import Derived.Test.YtlkpbpecgdphaaaGreatDoorParse
import Derived.Test.YtlkpbpecgdphaaaGreatDoorWell
import Derived.Test.YtlkpbpecgdphaaaGreatDoorTexts
namespace Go.Proofs.YtlkpbpecgdphaaaGreatDoor
open Go

theorem linesR_sane3 (l : List ByteArray) (h : ∀ x ∈ l, x.size ≤ 600) : ∀ (m : Mk) (k : Nat), Sane m k → Sane (linesR m l).2 (k + l.length) := by
  induction l with
  | nil => intro m k hs; exact hs
  | cons x l ih =>
    intro m k hs
    have h1 := hs.line x (h x (by simp))
    rw [linesR]
    split
    · have := ih (fun y hy => h y (by simp [hy])) _ _ h1
      simpa [Nat.add_assoc, Nat.add_comm 1] using this
    · exact h1.mono (by simp)
theorem parse_sane3 (s : ByteArray) : Sane (parseR s).2 700 := by
  unfold parseR
  split
  · exact sane0.mono (by omega)
  · rename_i h6
    split
    · exact sane0.mono (by omega)
    · split
      · have h1 := linesR_sane3 (lines s) (fun x hx => by have := lines_size hx; omega) mk0 0 sane0
        have h2 := lines_len s
        exact h1.mono (by omega)
      · exact sane0.mono (by omega)
/-- How the rules and phony names of a description look while it is read. -/
structure Shp (m : Mk) : Prop where
  ne : ∀ r ∈ m.rules, r.1 ≠ []
  shp : ∀ r ∈ m.rules, shapedR r.1 r.2.1 = true
  cmd : ∀ r ∈ m.rules, ∀ c ∈ r.2.2, c.size ≤ 28
  pho : ∀ x ∈ m.phony, nameB x = true
theorem shp0 : Shp mk0 := ⟨by simp [mk0], by simp [mk0], by simp [mk0], by simp [mk0]⟩
theorem moreCmd_mem2 {l : List Ru} {c : ByteArray} : ∀ r ∈ moreCmd l c, ∃ q ∈ l, r.1 = q.1 ∧ r.2.1 = q.2.1 ∧ ∀ x ∈ r.2.2, x ∈ q.2.2 ∨ x = c := by
  fun_induction moreCmd l c with
  | case1 => simp
  | case2 r c =>
    intro x hx
    simp at hx
    subst hx
    exact ⟨r, by simp, rfl, rfl, fun y hy => by simpa using hy⟩
  | case3 r s l c ih =>
    intro x hx
    rcases List.mem_cons.1 hx with rfl | hx
    · exact ⟨x, by simp, rfl, rfl, fun y hy => .inl hy⟩
    · obtain ⟨q, hq, h⟩ := ih x hx
      exact ⟨q, List.mem_cons_of_mem _ hq, h⟩
theorem Shp.line {m : Mk} (h : Shp m) (s : ByteArray) : Shp (lineR m s).2 := by
  unfold lineR
  split
  · exact h
  · split
    · unfold cmdR
      split
      · exact h
      · split
        · exact h
        · split
          · exact h
          · rename_i hc
            have key := fun r hr => moreCmd_mem2 (l := m.rules) (c := ba (expR m.vars 5 (s.extract 1 s.size).data.toList).2) r hr
            refine ⟨fun r hr => ?_, fun r hr => ?_, fun r hr c hcm => ?_, h.pho⟩
            · obtain ⟨q, hq, e1, _⟩ := key r hr
              rw [e1]; exact h.ne q hq
            · obtain ⟨q, hq, e1, e2, _⟩ := key r hr
              rw [e1, e2]; exact h.shp q hq
            · obtain ⟨q, hq, _, _, e3⟩ := key r hr
              rcases e3 c hcm with h1 | h1
              · exact h.cmd q hq c h1
              · rw [h1, ba_size]; omega
    · split
      · unfold phonyR
        split
        · exact h
        · rename_i hp
          refine ⟨h.ne, h.shp, h.cmd, fun x hx => ?_⟩
          rcases List.mem_append.1 hx with hx | hx
          · exact h.pho x hx
          · simp at hx
            subst hx
            cases hn : nameB (s.extract 6 s.size) with
            | true => rfl
            | false => exact absurd (.inl hn) hp
      · split
        · unfold varR
          split
          · exact h
          · split
            · exact h
            · exact ⟨h.ne, h.shp, h.cmd, h.pho⟩
        · unfold ruleR
          split
          · exact h
          · unfold headR
            split
            · exact h
            · rename_i h0
              split
              · exact h
              · split
                · exact h
                · rename_i h2
                  refine ⟨fun r hr => ?_, fun r hr => ?_, fun r hr => ?_, h.pho⟩
                  · rcases List.mem_append.1 hr with hr | hr
                    · exact h.ne r hr
                    · simp at hr; subst hr
                      intro e
                      exact h0 (.inr (by rw [show wordsR (Lib.cut (expR m.vars 5 s.data.toList).2 [58]).1 = [] from e]; rfl))
                  · rcases List.mem_append.1 hr with hr | hr
                    · exact h.shp r hr
                    · simp at hr; subst hr
                      simpa using h2
                  · rcases List.mem_append.1 hr with hr | hr
                    · exact h.cmd r hr
                    · simp at hr; subst hr
                      simp
theorem linesR_shp : ∀ (l : List ByteArray) (m : Mk), Shp m → Shp (linesR m l).2 := by
  intro l
  induction l with
  | nil => exact fun m h => h
  | cons x l ih =>
    intro m h
    rw [linesR]
    split
    · exact ih _ (h.line x)
    · exact h.line x
theorem parse_shp (s : ByteArray) : Shp (parseR s).2 := by
  unfold parseR
  split
  · exact shp0
  · split
    · exact shp0
    · split
      · exact linesR_shp _ _ shp0
      · exact shp0
theorem shaped_word {T N : List ByteArray} (h : shapedR T N = true) : ∀ x ∈ T ++ N, nameB (onceR x) = true := by
  intro x hx
  unfold shapedR at h
  rw [Bool.and_eq_true] at h
  obtain ⟨i, hi, e⟩ := List.mem_iff_getElem.1 hx
  have := List.all_eq_true.1 h.2 i (List.mem_range.2 hi)
  rw [List.getElem?_eq_getElem hi, e] at this
  unfold wordOk at this
  rw [Bool.and_eq_true, Bool.and_eq_true] at this
  exact this.1.1
theorem nameB_size {x : ByteArray} (h : nameB x = true) : x.size ≤ 8 := by
  rcases Nat.lt_or_ge 8 x.size with h1 | h1
  · rw [nameB_short (.inr h1)] at h; cases h
  · exact h1
theorem shaped_size {T N : List ByteArray} (h : shapedR T N = true) : ∀ x ∈ T ++ N, x.size ≤ 8 := fun x hx => by
  have := nameB_size (shaped_word h x hx)
  rwa [onceR_size] at this
theorem parse_lim (s : ByteArray) : Lim (parseR s).2 := by
  have h1 := parse_sane3 s
  have h2 := parse_shp s
  exact ⟨by have := h1.rules; omega, h2.ne, fun r hr => by have := (h1.cmds r hr).1; omega, fun r hr => by have := (h1.cmds r hr).2.1; omega, fun r hr => by have := (h1.cmds r hr).2.2; omega,
    fun r hr x hx => by have := shaped_size (h2.shp r hr) x (List.mem_append_left _ hx); omega, fun r hr x hx => by have := shaped_size (h2.shp r hr) x (List.mem_append_right _ hx); omega,
    fun r hr c hc => by have := h2.cmd r hr c hc; omega, by have := h1.phony; omega⟩
theorem checkGo_made {ph : List ByteArray} : ∀ (l : List Ru) (made : List ByteArray), (checkGo ph made l).1 = true → ∀ r ∈ l, ∀ t ∈ r.1, t ∉ made := by
  intro l
  induction l with
  | nil => intro _ _ r hr; cases hr
  | cons r l ih =>
    intro made h q hq t ht
    rw [checkGo] at h
    split at h
    · rename_i ha
      rcases List.mem_cons.1 hq with rfl | hq
      · unfold agreesR at ha
        rw [Bool.and_eq_true] at ha
        have := List.all_eq_true.1 ha.1 t ht
        intro hm
        rw [inT_mem.2 hm] at this
        cases this
      · exact fun hm => ih _ h q hq t ht (List.mem_append_left _ hm)
    · cases h
theorem checkGo_uniq {ph : List ByteArray} : ∀ (l : List Ru) (made : List ByteArray), (checkGo ph made l).1 = true → ∀ r ∈ l, ∀ r' ∈ l, ∀ x, x ∈ r.1 → x ∈ r'.1 → r.1 = r'.1 := by
  intro l
  induction l with
  | nil => intro _ _ r hr; cases hr
  | cons q l ih =>
    intro made h r hr r' hr' x hx hx'
    rw [checkGo] at h
    split at h
    · have hm := checkGo_made l _ h
      rcases List.mem_cons.1 hr with rfl | hr
      · rcases List.mem_cons.1 hr' with rfl | hr'
        · rfl
        · exact absurd (List.mem_append_right _ hx) (hm r' hr' x hx')
      · rcases List.mem_cons.1 hr' with e | hr2'
        · rw [e] at hx'
          exact absurd (List.mem_append_right _ hx') (hm r hr x hx)
        · exact ih _ h r hr r' hr2' x hx hx'
    · cases h
theorem parse_uniq (s : ByteArray) : UniqT (parseR s).2 := by
  unfold parseR
  have h0 : UniqT mk0 := fun r hr => by cases hr
  split
  · exact h0
  · split
    · exact h0
    · split
      · rename_i h
        unfold checkR at h
        rw [Bool.and_eq_true] at h
        exact checkGo_uniq _ _ h.1
      · exact h0
end Go.Proofs.YtlkpbpecgdphaaaGreatDoor
namespace Go.Proofs.YtlkpbpecgdphaaaGreatDoor
open Go

theorem cut_none_mem {s : Bs} (h : (Lib.cut s [37]).2.2 = false) : (37 : UInt8) ∉ s := by
  obtain ⟨h1, _⟩ := cut_miss h
  rcases Lib.index_spec s [37] with ⟨_, hn⟩ | ⟨i, hi, _⟩
  · intro hm
    obtain ⟨j, hj, e⟩ := List.mem_iff_getElem.1 hm
    have := hn j (by omega)
    unfold Lib.occAt at this
    rw [List.drop_eq_getElem_cons hj, e] at this
    simp at this
  · omega
theorem cut_some_mem {s : Bs} (h : (Lib.cut s [37]).2.2 = true) : (37 : UInt8) ∈ s := by
  rcases Lib.index_spec s [37] with ⟨h1, _⟩ | ⟨i, hi, _, ho, _⟩
  · rw [cut_none h1] at h; cases h
  · unfold Lib.occAt at ho
    rw [List.isPrefixOf_iff_prefix] at ho
    obtain ⟨t, ht⟩ := ho
    exact List.mem_of_mem_drop (i := i) (by rw [← ht]; simp)
theorem pat_iff {x : ByteArray} : patB x = true ↔ (37 : UInt8) ∈ x.data.toList := by unfold patB; simp
theorem pat_not {x : ByteArray} : patB x = false ↔ (37 : UInt8) ∉ x.data.toList := by unfold patB; simp
theorem cut_parts {x : ByteArray} (h : (Lib.cut x.data.toList [37]).2.2 = true) (hn : nameB (onceR x) = true) : (37 : UInt8) ∉ (Lib.cut x.data.toList [37]).1 ∧ (37 : UInt8) ∉ (Lib.cut x.data.toList [37]).2.1 := by
  have h1 := pat_not.1 (nameB_pat hn)
  unfold onceR at h1
  rw [if_pos h, ba_data] at h1
  exact ⟨fun hm => h1 (List.mem_append_left _ hm), fun hm => h1 (List.mem_append_right _ (List.mem_cons_of_mem _ hm))⟩
theorem once_plain {x y : ByteArray} (h : patB x = false) : onceB x y = x := by
  unfold onceB
  rw [if_neg]
  intro hc
  exact pat_not.1 h (cut_some_mem hc)
theorem once_pat {x y : ByteArray} (hx : nameB (onceR x) = true) (hy : patB y = false) : patB (onceB x y) = false := by
  rw [pat_not]
  unfold onceB
  split
  · rename_i h
    obtain ⟨h1, h2⟩ := cut_parts h hx
    rw [ba_data]
    intro hm
    rcases List.mem_append.1 hm with hm | hm
    · exact h1 hm
    · rcases List.mem_append.1 hm with hm | hm
      · exact pat_not.1 hy hm
      · exact h2 hm
  · rename_i h
    exact cut_none_mem (by simpa using h)
theorem stem_pat {p n : ByteArray} (hn : patB n = false) : patB (stemR p n).1 = false := by
  rw [pat_not]
  unfold stemR
  split
  · intro hm
    rw [Lib.extract_data] at hm
    exact pat_not.1 hn (List.mem_of_mem_drop (List.mem_of_mem_take hm))
  · exact fun hm => by simp at hm
theorem shaped_plain {T N : List ByteArray} (h : shapedR T N = true) {x : ByteArray} (hx : x ∈ T) (hp : patB x = false) : ∀ y ∈ N, patB y = false := by
  intro y hy
  unfold shapedR at h
  rw [Bool.and_eq_true] at h
  have hany : T.any patB = false := by
    cases ha : T.any patB with
    | false => rfl
    | true =>
      have h1 := h.1
      rw [ha] at h1
      simp at h1
      obtain ⟨z, hz, hpz⟩ := List.any_eq_true.1 ha
      match T, hx, hz, h1 with
      | [a], hx, hz, _ =>
        rw [List.mem_singleton.1 hx] at hp
        rw [List.mem_singleton.1 hz, hp] at hpz
        cases hpz
      | a :: b :: T, _, _, h1 => simp at h1
  obtain ⟨i, hi, e⟩ := List.mem_iff_getElem.1 (List.mem_append_right T hy)
  have := List.all_eq_true.1 h.2 i (List.mem_range.2 hi)
  rw [List.getElem?_eq_getElem hi, e] at this
  unfold wordOk at this
  rw [Bool.and_eq_true, hany] at this
  simpa using this.2
theorem fill_plain {nd : List ByteArray} (h : ∀ y ∈ nd, patB y = false) (st : ByteArray) : fillR nd st = nd := by
  unfold fillR
  rw [show nd.map (onceB · st) = nd.map id from List.map_congr_left (fun y hy => once_plain (h y hy)), List.map_id]
theorem parse_asks (s : ByteArray) (l : List F) (goal : ByteArray) (hg : goal.size ≤ 1000) (hf : ∀ f ∈ l, f.1.size ≤ 1000) : Asks (parseR s).2 l (univ (parseR s).2 l goal) := by
  have hS := parse_shp s
  have hL := parse_lim s
  generalize (parseR s).2 = m at *
  refine ⟨univ_size hL hg hf, fun x _ hp r hr hx => fill_plain (shaped_plain (hS.shp r hr) hx hp) _, fun r hr x hfit => ?_, fun x g hp hg y hy => ?_⟩
  · unfold fitsB at hfit
    rw [Bool.and_eq_true] at hfit
    have h1 := hfit.1
    unfold stemR at h1
    split at h1
    · rename_i hc
      have hm := pat_iff.2 (cut_some_mem (s := (headT r.1).data.toList) hc.1)
      cases hi : inT m.phony (headT r.1) with
      | false => rfl
      | true =>
        rw [nameB_pat (hS.pho _ (inT_mem.1 hi))] at hm
        cases hm
    · cases h1
  · rcases grp_cases hg with ⟨r, hr, rfl, hx⟩ | ⟨_, r, hr, rfl, hfit⟩
    · exact shaped_plain (hS.shp r hr) hx hp y hy
    · have hy' : y ∈ fillR r.2.1 (stemR (headT r.1) x).1 := hy
      unfold fillR at hy'
      obtain ⟨z, hz, rfl⟩ := List.mem_map.1 hy'
      exact once_pat (shaped_word (hS.shp r hr) z (List.mem_append_right _ hz)) (stem_pat hp)
end Go.Proofs.YtlkpbpecgdphaaaGreatDoor
namespace Go.Proofs.YtlkpbpecgdphaaaGreatDoor
open Go.RowKit

def made0 : ByteArray := ⟨#[98, 32, 58, 32, 97, 10, 9, 99, 111, 112, 121, 32, 97, 32, 98, 10]⟩
set_option maxRecDepth 100000 in
theorem parse_made : (parseR made0).1 = 0 := by decide +kernel
set_option maxRecDepth 100000 in
theorem graph_made : (graphR (parseR made0).2 [(⟨#[97]⟩, ⟨#[]⟩)] ⟨#[98]⟩).1 = 0 ∧ (graphR (parseR made0).2 [(⟨#[97]⟩, ⟨#[]⟩)] ⟨#[98]⟩).2.length = 1 := by decide +kernel
theorem room_nil (U : List ByteArray) : room U [] < U.length + 1 := Nat.lt_succ_of_le (List.length_filter_le _ _)
theorem graph_ok {m : Mk} {l : List F} {goal : ByteArray} (hu : UniqT m) (h0 : (graphR m l goal).1 = 0) : OutOk m l (graphR m l goal).2 ∧ (((graphR m l goal).2 = [] ∧ has l goal = true) ∨ ∃ o g, (graphR m l goal).2 = o ++ [g] ∧ goal ∈ g.tg) := by
  unfold graphR at h0 ⊢
  split at h0
  · rename_i hn
    rw [if_pos hn]
    split at h0
    · rename_i h1
      rw [if_pos h1]
      obtain ⟨ext, e, _, hok, _⟩ := visit_left (goal := goal) hu ((univ m l goal).length + 1) goal [] [] way_nil (by unfold univ; simp) (room_nil _) outOk_nil h1
      exact ⟨by rw [e]; exact hok, goal_last h1⟩
    · rename_i h1; exact absurd h0 h1
  · cases h0
theorem graph_err {m : Mk} {l : List F} {goal : ByteArray} (h0 : (graphR m l goal).1 ≠ 0) : (graphR m l goal).2 = [] := by
  unfold graphR at h0 ⊢
  split
  · rename_i hn
    rw [if_pos hn] at h0
    split
    · rename_i h1; rw [if_pos h1] at h0; exact absurd h1 h0
    · rfl
  · rfl
theorem graph_few {m : Mk} {l : List F} {goal : ByteArray} (hL : Lim m) : FewG (graphR m l goal).2 := by
  unfold graphR
  split
  · split
    · exact visit_few hL _ _ _ _ ⟨by simp, by simp⟩
    · exact ⟨by simp, by simp⟩
  · exact ⟨by simp, by simp⟩
set_option maxHeartbeats 4000000 in
set_option maxRecDepth 100000 in
theorem made_any (w : World) (hm : MaxOk w) : Calls Tryz.prog 26 #[] w fun e w' => e = .returned (.bool true) ∧ Below w.heap.size w w' := by
  have HM := Lib.hid hm
  obtain ⟨q, hq⟩ : ∃ q, q = parseR made0 := ⟨_, rfl⟩
  have hp := parse_any made0 w hm (by decide)
  unfold PaPost at hp
  rw [← hq] at hp
  have h1 : q.1 = 0 := by rw [hq]; exact parse_made
  have hg : (graphR q.2 [(⟨#[97]⟩, ⟨#[]⟩)] ⟨#[98]⟩).1 = 0 ∧ (graphR q.2 [(⟨#[97]⟩, ⟨#[]⟩)] ⟨#[98]⟩).2.length = 1 := by rw [hq]; exact graph_made
  have HL := Lib.hid (show Lim q.2 by rw [hq]; exact parse_lim _)
  have HU := Lib.hid (show UniqT q.2 by rw [hq]; exact parse_uniq _)
  have HP := Lib.hid hp
  have HG := Lib.hid hg
  clear hm hq hp hg
  obtain ⟨q1, m⟩ := q
  dsimp only at h1 HL HU HP HG
  subst h1
  rw [errV_zero] at HP
  have key : ∀ (A : Option Addr) (vv vr vp : Value) (R : List Row3) (W : World), MkRd W m vv vr vp R → RdF W W.heap.size A 1 1 [(⟨#[97]⟩, ⟨#[]⟩)] → MaxOk W → Calls Tryz.prog 11 #[.agg #[vv, vr, vp], .slice A 1 1, .string ⟨#[98]⟩] W fun e w' => (∃ A' c', e = .returned (.tuple #[.slice A' 1 c', .nilIface])) ∧ Below W.heap.size W w' := fun A vv vr vp R W h1 h2 h3 =>
    (of_any m [(⟨#[97]⟩, ⟨#[]⟩)] ⟨#[98]⟩ vv vr vp R A 1 W h1 h2 HL.out HU.out (List.pairwise_singleton _ _) (Nat.le_of_lt_succ (by decide)) (by decide) (fun f hf => by rw [List.mem_singleton.1 hf]; decide) h3).mono fun e w' h => by
      obtain ⟨A', c', R', rfl, _, hb⟩ := h
      exact ⟨⟨A', c', by rw [HG.out.1, HG.out.2]; rfl⟩, hb⟩
  have KEY := Lib.hid key
  clear key HG HL HU
  go_enter Tryz.func26, Tryz.ntmps26
  go_wp2_with fail
  refine HP.out.mono ?_
  rintro e w1 ⟨vv, vr, vp, R, rfl, hmo, hb1⟩
  obtain ⟨Av, cv, rfl⟩ := own_slice hmo.vars
  obtain ⟨Ar, cr, rfl⟩ := own_slice hmo.rules
  obtain ⟨Ap, cp, rfl⟩ := own_slice hmo.phony
  have hba : Below w1.heap.size w1 (w1.alloc (.cells #[.slice Av m.vars.length cv, .slice Ar R.length cr, .slice Ap m.phony.length cp] 29)) := (Below.refl _ _).alloc (Nat.le_refl _) _
  have pm := Blk.new w1 29 #[.slice Av m.vars.length cv, .slice Ar R.length cr, .slice Ap m.phony.length cp]
  have x0 := pm.cell 0
  have x1 := pm.cell 1
  have x2 := pm.cell 2
  have he2 : (w1.alloc (.cells #[.slice Av m.vars.length cv, .slice Ar R.length cr, .slice Ap m.phony.length cp] 29)).heap.size = w1.heap.size + 1 := by simp
  have HO := Lib.hid (hmo.below hba)
  have HB := Lib.hid (hb1.trans (hba.mono hb1.size))
  have HM2 := Lib.hid (HM.out.below (hb1.trans (hba.mono hb1.size)))
  clear hmo hb1 hba pm
  go_wp2_with fail
  generalize w1.alloc (.cells #[.slice Av m.vars.length cv, .slice Ar R.length cr, .slice Ap m.phony.length cp] 29) = w2 at *
  have hbb : Below w2.heap.size w2 (w2.alloc (.cells #[.string ⟨#[97]⟩, .string ⟨#[]⟩] tFi)) := (Below.refl _ _).alloc (Nat.le_refl _) _
  have hsz : (w2.alloc (.cells #[.string ⟨#[97]⟩, .string ⟨#[]⟩] tFi)).heap.size = w2.heap.size + 1 := by simp
  have hrf : RdF (w2.alloc (.cells #[.string ⟨#[97]⟩, .string ⟨#[]⟩] tFi)) (w2.alloc (.cells #[.string ⟨#[97]⟩, .string ⟨#[]⟩] tFi)).heap.size (some ⟨w1.heap.size + 1, 0, none⟩) 1 1 [(⟨#[97]⟩, ⟨#[]⟩)] := by rw [hsz, ← he2]; exact RdF_1 w2 _ _ tFi
  refine (KEY.out _ _ _ _ R _ (HO.out.below hbb).rd hrf (HM2.out.below hbb)).mono ?_
  rintro e w3 ⟨⟨A3, c3, rfl⟩, hb3⟩
  have HB3 := Lib.hid ((HB.out.trans (hbb.mono HB.out.size)).trans (hb3.mono (HB.out.trans (hbb.mono HB.out.size)).size))
  clear hbb hsz hrf hb3
  go_wp2
  go_ret
  exact ⟨rfl, HB3.out⟩
end Go.Proofs.YtlkpbpecgdphaaaGreatDoor
