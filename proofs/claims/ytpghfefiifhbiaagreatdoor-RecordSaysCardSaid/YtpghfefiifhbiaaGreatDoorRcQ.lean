/-
  WALKS: the reader of package record: number, text.
-/
import Derived.Test.YtpghfefiifhbiaaGreatDoorRcP
namespace Go.Proofs.YtpghfefiifhbiaaGreatDoor
open Go.RowKit Go.Sort

/-- What a step gives: a number (0 where there is none), and what is left. -/
def numS (most : Nat) (st : St) : Option (Nat × Bs) := st.bind (numO most)
def nOf (o : Option (Nat × Bs)) : Nat := (o.map (·.1)).getD 0
def sOf {α : Type} (o : Option (α × Bs)) : St := o.map (·.2)
theorem numS_bad {most : Nat} {st : St} (h : numL (val ((rest st).takeWhile dg)) ≠ (rest st).takeWhile dg ∨ most < val ((rest st).takeWhile dg)) : numS most st = none := by
  cases st with
  | none => rfl
  | some s =>
    show numO most s = none
    unfold numO
    rw [if_neg]
    rintro ⟨h1, h2⟩
    rcases h with h | h
    · exact h h1
    · exact absurd h2 (Nat.not_le.2 h)
theorem numS_good {most : Nat} {s : Bs} (h1 : numL (val (s.takeWhile dg)) = s.takeWhile dg) (h2 : val (s.takeWhile dg) ≤ most) : numS most (some s) = some (val (s.takeWhile dg), s.dropWhile dg) := by
  show numO most s = _
  unfold numO
  rw [if_pos ⟨h1, h2⟩]
def NuP (b : Nat) (o : Option (Nat × Bs)) (w : World) (e : Ending) (w' : World) : Prop := e = .returned (.int .i64 (nOf o)) ∧ In w' b (sOf o) ∧ Upd w w' (One b)
theorem numL_ge {n : Nat} {d : Bs} (h : numL n = d) : d ≠ [] := by rw [← h]; exact numL_ne n
theorem Upd.two {a b c : World} {k : Nat} (h : Upd a b (One k)) (g : Upd b c (One k)) : Upd a c (One k) := h.trans g (fun _ _ h => h)

set_option maxRecDepth 100000 in
set_option maxHeartbeats 4000000 in
theorem number_any (b most : Nat) (st : St) (w : World) (h : In w b st) (hE : Env w) (hm : most ≤ 1000) (hl : (rest st).length ≤ 1000000) :
    Calls Tryz.prog 31 #[ptr b, .int .i64 most] w (NuP b (numS most st) w) := by
  have c0 := h.cell0
  obtain ⟨r, hr⟩ : ∃ r, r = rest st := ⟨_, rfl⟩
  obtain ⟨d, hd⟩ : ∃ d, d = r.takeWhile dg := ⟨_, rfl⟩
  obtain ⟨a, ha⟩ : ∃ a, a = r.dropWhile dg := ⟨_, rfl⟩
  have hda : d ++ a = r := by rw [hd, ha]; exact List.takeWhile_append_dropWhile
  have hdd : ∀ c ∈ d, dg c = true := fun c hc => by
    have := List.all_takeWhile (p := dg) (l := r)
    rw [List.all_eq_true] at this
    exact this c (by rw [← hd]; exact hc)
  obtain ⟨nd, hnd⟩ : ∃ nd, nd = d.length := ⟨_, rfl⟩
  have hsr : (ba r).size = nd + a.length := by rw [ba_size, ← hda, List.length_append, hnd]
  have hsa : (ba a).size = a.length := ba_size a
  have hex : (ba r).extract 0 nd = ba d := by
    apply ByteArray.ext
    rw [hnd, ← hda]
    simp [ba]
  have hlr : r.length ≤ 1000000 := by rw [hr]; exact hl
  have hln : nd + a.length ≤ 1000000 := by rw [← hda, List.length_append] at hlr; omega
  rw [← hr] at c0
  have H := Lib.hid h
  have HE := Lib.hid hE
  have HR := Lib.hid hr
  have HD := Lib.hid hd
  have HA := Lib.hid ha
  have HEX := Lib.hid hex
  have HDD := Lib.hid hdd
  have HT := Lib.hid (trimDg_any r w)
  rw [← ha] at HT
  have HND := Lib.hid hnd
  clear h hE hr hd ha hda hdd hex hlr hl hnd
  unfold ptr at *
  go_enter Tryz.func31, Tryz.ntmps31
  go_wp2_with fail
  refine HT.out.mono ?_
  rintro e w1 ⟨rfl, hb1⟩
  have HB1 := Lib.hid hb1
  have hi1 := H.out.upd hb1
  have c1 := hi1.cell0
  rw [← HR.out] at c1
  have HI1 := Lib.hid hi1
  clear c0 hb1 hi1 HT
  have hw : IntKind.i64.wrap (((ba r).size : Int) - ((ba a).size : Int)) = (nd : Int) := by rw [IntKind.wrap_i64]; omega
  have hle : (nd : Int) ≤ ((ba r).size : Int) := by omega
  have hz : (0 : Int) ≤ (nd : Int) := by omega
  have HSR := Lib.hid hsr
  have HSA := Lib.hid hsa
  clear hsr hsa
  go_wp2_with fail
  go_quiet (fail)
  obtain ⟨w2, hw2⟩ : ∃ w2, w2 = w1.drewN nq := ⟨_, rfl⟩
  rw [← hw2]
  have hb2 : Below w.heap.size w w2 := by rw [hw2]; exact (HB1.out.trans ((below_drews w1 nq).mono HB1.out.size))
  have HB2 := Lib.hid hb2
  clear hw2 hb2 c1 HI1 hw hle hz
  have HAT := Lib.hid (atoi_any d w2 (HE.out.below HB2.out) HDD.out (by rw [← HND.out]; omega))
  rw [← HEX.out] at HAT
  go_wp2_with fail
  refine HAT.out.mono ?_
  rintro e w3 ⟨hb3, h3⟩
  have HB3 := Lib.hid (HB2.out.trans (hb3.mono HB2.out.size))
  clear hb3 HAT
  have hi3 := H.out.upd HB3.out
  have HI3 := Lib.hid hi3
  have HFA := Lib.hid (fail_any b st w3 hi3)
  unfold ptr at HFA
  clear hi3
  rcases h3 with ⟨hne, hlt, rfl⟩ | ⟨hbad, k, t, v, hk, rfl⟩
  · by_cases hmo : val d ≤ most
    · have hmz : decide ((most : Int) < (val d : Int)) = false := decide_eq_false (by omega)
      have hIt := itoa_any (val d) (by omega) w3 (HE.out.below HB3.out)
      have HIT := Lib.hid hIt
      clear hIt
      go_wp2_with fail
      refine HIT.out.mono ?_
      rintro e w4 ⟨rfl, hb4⟩
      have HB4 := Lib.hid (HB3.out.trans (hb4.mono HB3.out.size))
      clear hb4 HIT HFA
      have hi4 := H.out.upd HB4.out
      have c4 := hi4.cell0
      have f4 := hi4.free 0
      have HI4 := Lib.hid hi4
      have HFA := Lib.hid (fail_any b st w4 hi4)
      unfold ptr at HFA
      clear hi4
      by_cases hnum : numL (val d) = d
      · have hq : ((ba (numL (val d))).toList == ((ba r).extract 0 nd).toList) = true := by rw [HEX.out, hnum]; simp
        have HN := Lib.hid hnum
        clear hnum
        go_wp2
        go_ret
        have hst : ∃ s, st = some s := by
          cases st with
          | some s => exact ⟨s, rfl⟩
          | none => exact absurd (show d = [] by rw [HD.out, HR.out]; rfl) (numL_ge HN.out)
        obtain ⟨s, rfl⟩ := hst
        have hrs : r = s := HR.out
        have hg := numS_good (most := most) (s := s) (by rw [← hrs, ← HD.out]; exact HN.out) (by rw [← hrs, ← HD.out]; exact hmo)
        rw [← hrs, ← HD.out, ← HA.out] at hg
        rw [← hrs]
        refine ⟨by rw [hg]; rfl, by rw [hg]; exact HI4.out.set, (Upd.of_below HB4.out _).setOne 0 _⟩
      · have hq : ((ba (numL (val d))).toList == ((ba r).extract 0 nd).toList) = false := by
          rw [HEX.out, beq_eq_false_iff_ne]
          intro e
          exact hnum (ba_inj (toList_inj e))
        have HN := Lib.hid hnum
        clear hnum
        go_wp2_with fail
        refine HFA.out.mono ?_
        rintro e w5 ⟨rfl, hi5, hu5⟩
        have HI5 := Lib.hid hi5
        have HU5 := Lib.hid ((Upd.of_below HB4.out (One b)).two hu5)
        clear hi5 hu5
        go_wp2
        go_ret
        have hg := numS_bad (most := most) (st := st) (.inl (by rw [← HR.out, ← HD.out]; exact HN.out))
        exact ⟨by rw [hg]; rfl, by rw [hg]; exact HI5.out, HU5.out⟩
    · have hmz : (most : Int) < (val d : Int) := by omega
      go_wp2_with fail
      refine HFA.out.mono ?_
      rintro e w5 ⟨rfl, hi5, hu5⟩
      have HI5 := Lib.hid hi5
      have HU5 := Lib.hid ((Upd.of_below HB3.out (One b)).two hu5)
      clear hi5 hu5
      go_wp2
      go_ret
      have hg := numS_bad (most := most) (st := st) (.inr (by rw [← HR.out, ← HD.out]; omega))
      exact ⟨by rw [hg]; rfl, by rw [hg]; exact HI5.out, HU5.out⟩
  · have HBAD := Lib.hid hbad
    clear hbad
    go_wp2_with fail
    refine HFA.out.mono ?_
    rintro e w5 ⟨rfl, hi5, hu5⟩
    have HI5 := Lib.hid hi5
    have HU5 := Lib.hid ((Upd.of_below HB3.out (One b)).two hu5)
    clear hi5 hu5
    go_wp2
    go_ret
    have hg : numS most st = none := by
      rcases HBAD.out with h0 | h0
      · exact numS_bad (.inl (by rw [← HR.out, ← HD.out, h0]; exact numL_ne _))
      · exact numS_bad (.inr (by rw [← HR.out, ← HD.out]; omega))
    exact ⟨by rw [hg]; rfl, by rw [hg]; exact HI5.out, HU5.out⟩
end Go.Proofs.YtpghfefiifhbiaaGreatDoor
