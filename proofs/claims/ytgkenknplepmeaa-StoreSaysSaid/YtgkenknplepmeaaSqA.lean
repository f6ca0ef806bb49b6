/-
  WALK: the document's Store.Commit.
-/
import Derived.Test.YtgkenknplepmeaaSpF
import Derived.Test.YtgkenknplepmeaaApd
import Derived.Test.YtgkenknplepmeaaCat
namespace Go.Proofs.Ytgkenknplepmeaa
open Go.RowKit Go.Sort

abbrev tSr : TypeId := 83
theorem key_first {c : Ch} (h : ckR c = 0) : ∃ h0 : 0 < c.key.size, (((c.key[0]'h0).toNat : Int) == 102) = keyB pF c.key := by
  have h3 : 3 ≤ c.key.size := by
    rcases Nat.lt_or_ge c.key.size 3 with h3 | h3
    · exfalso
      unfold ckR at h
      rw [keyB_short rfl h3, keyB_short rfl h3] at h
      simp at h
    · exact h3
  have h0 : 0 < c.key.size := by omega
  refine ⟨h0, ?_⟩
  have hF := keyB_long (p := pF) (s := c.key) rfl h3
  have hD := keyB_long (p := pD) (s := c.key) rfl h3
  have hor : keyB pF c.key = true ∨ keyB pD c.key = true := by
    unfold ckR at h
    split at h
    · rename_i hc
      rw [Bool.and_eq_true, Bool.or_eq_true] at hc
      exact hc.1
    · cases h
  cases hk : keyB pF c.key with
  | true =>
    rw [hk] at hF
    have h1 := (Bool.and_eq_true _ _ ▸ hF.symm : _ = true ∧ _ = true).1
    unfold pF at h1
    rw [first_byte h0 h1]
    rfl
  | false =>
    rcases hor with h1 | h1
    · rw [hk] at h1; cases h1
    · rw [h1] at hD
      have h2 := (Bool.and_eq_true _ _ ▸ hD.symm : _ = true ∧ _ = true).1
      unfold pD at h2
      rw [first_byte h0 h2]
      rfl
def RcRel (w : World) (l : List Ch) (v5 : Value) (wr : World) : Prop := ∃ k : Nat, k ≤ l.length ∧ v5 = .int .i64 k ∧ (∀ (j : Nat) (d : Ch), j < k → l[j]? = some d → ckR d = 0) ∧ Below w.heap.size w wr
def RfRel (r : List Ch) (v8 v9 : Value) (w wr : World) : Prop := ∃ k : Nat, k ≤ r.length ∧ v9 = .int .i64 k ∧ v8 = .int .i64 (fileN (r.take k)) ∧ wr = w
def RcPost (w : World) (b0 q n u c : Nat) (A : Option Addr) (rows l : List Ch) (e : Ending) (w' : World) : Prop :=
  Upd w w' (fun k => k = q) ∧ ((preR l ≠ 0 ∧ e = .returned (.int .i64 (preR l)) ∧ Blk w' q tSr #[.slice A rows.length c, .int .i64 u, .int .i64 (n - 44 : Nat)] ∧ KpC w' b0 A rows.length c rows) ∨
    (preR l = 0 ∧ ∃ r, ApplyOf (rows ++ l) r ∧ ((fullB n r l = true ∧ e = .returned (.int .i64 10) ∧ Blk w' q tSr #[.slice A rows.length c, .int .i64 u, .int .i64 (n - 44 : Nat)] ∧ KpC w' b0 A rows.length c rows) ∨
      (fullB n r l = false ∧ e = .returned (.int .i64 0) ∧ ∃ A' c', Blk w' q tSr #[.slice A' r.length c', .int .i64 (usedR n u l.length), .int .i64 (n - 44 : Nat)] ∧ KpC w' b0 A' r.length c' r))))
theorem below_upd {w w' : World} (h : Below w.heap.size w w') (S : Nat → Prop) : Upd w w' S := ⟨h.os, h.tape, h.output, h.size, fun i hi _ => h.block i hi⟩

set_option maxRecDepth 100000 in
set_option maxHeartbeats 4000000 in
theorem refCommit_any (b0 q n u c : Nat) (A : Option Addr) (rows l : List Ch) (Al : Option Addr) (nl cl : Nat) (w : World) (h : Blk w q tSr #[.slice A rows.length c, .int .i64 u, .int .i64 (n - 44 : Nat)]) (hk : KpC w b0 A rows.length c rows) (hok : RowsOk rows) (hfew : tmB rows = false) (hl : KpC w b0 Al nl cl l) (hs : ∀ f ∈ l, f.key.size ≤ 20 ∧ f.val.size ≤ 400)
    (hnl : nl ≤ 1000) (hqb : b0 ≤ q) (hn : n ≤ 120) (hu : u ≤ n - 44) (hb0 : b0 ≤ w.heap.size) :
    Calls Try.prog 51 #[ptr q, .slice Al nl cl] w (RcPost w b0 q n u c A rows l) := by
  have hll := hl.1.1
  have HH := Lib.hid h
  have HK := Lib.hid hk
  have HL := Lib.hid hl
  have HLL := Lib.hid hll
  have hlc1 := hl.1.2.1
  have hlc2 := hl.1.2.2.1
  unfold maxLen at hlc2
  have hrl := (rows_few hok.ck hfew).2
  clear h hk hl
  by_cases h40 : 40 < nl
  · have h40i : (40 : Int) < (nl : Int) := by omega
    have hpre : preR l = 2 := by unfold preR; rw [if_pos (by omega)]
    unfold ptr
    go_enter Try.func51, Try.ntmps51
    go_wp2
    go_ret
    exact ⟨Upd.refl _ _, .inl ⟨by rw [hpre]; decide, by rw [hpre]; rfl, HH.out, HK.out⟩⟩
  · have h40i : decide ((40 : Int) < (nl : Int)) = false := decide_eq_false (by omega)
    unfold ptr
    go_enter Try.func51, Try.ntmps51
    go_wp2
    go_loopw [5] (fun v5 wr => RcRel w l v5 wr) (fun i _ => nl - (intOf i).toNat)
    case atStart => exact ⟨0, Nat.zero_le _, rfl, fun j d hj => absurd hj (Nat.not_lt_zero j), Below.refl _ _⟩
    case round =>
      obtain ⟨k, hk, rfl, hno, hbl⟩ := hrel
      rw [HLL.out] at hk
      have HN := Lib.hid hno
      have HB := Lib.hid hbl
      clear hno hbl
      by_cases hlt : k < nl
      · obtain ⟨f, hf⟩ : ∃ f, l[k]? = some f := ⟨_, List.getElem?_eq_getElem (by rw [HLL.out]; exact hlt)⟩
        obtain ⟨b, off, rfl, hbb, y0, y1, y2⟩ := (HL.out.keep (Fr.of_below HB.out hb0)).1.at_ hf
        have hfs := hs f (List.mem_of_getElem? hf)
        have hkn : (k : Int) < (nl : Int) := by omega
        have HCK := Lib.hid (changeFault_any f wr (by omega))
        unfold Ch.v at HCK
        have HFF := Lib.hid hf
        clear hf
        by_cases hc0 : ckR f = 0
        · rw [hc0] at HCK
          go_wp2_with fail
          refine HCK.out.mono ?_
          rintro e w2 ⟨rfl, hb2⟩
          have HB2 := Lib.hid (HB.out.trans (hb2.mono HB.out.size))
          clear hb2 HCK
          go_wp2_with fail
          go_roundw
          case rel => exact ⟨k + 1, by rw [HLL.out]; omega, by go_num, fun j d hj hd => by
            rcases Nat.lt_or_ge j k with h1 | h1
            · exact HN.out j d h1 hd
            · obtain rfl : j = k := by omega
              rw [HFF.out] at hd; injection hd with hd; rw [← hd]; exact hc0, HB2.out⟩
          case measure => simp [intOf]; omega
        · have hpre : preR l = ckR f := by unfold preR; rw [if_neg (by rw [HLL.out]; exact h40)]; exact fvR_hit HFF.out hc0 HN.out
          have HPR := Lib.hid hpre
          have hpos : (0 : Int) < ckR f := by rcases ckR_cases f with h | h | h <;> omega
          clear hpre
          go_wp2_with fail
          refine HCK.out.mono ?_
          rintro e w2 ⟨rfl, hb2⟩
          have HB2 := Lib.hid (HB.out.trans (hb2.mono HB.out.size))
          clear hb2 HCK
          go_wp2
          go_ret
          exact ⟨below_upd HB2.out _, .inl ⟨by rw [HPR.out]; exact hc0, by rw [HPR.out]; rfl, (HB2.out.block _ HH.out.lt).trans HH.out, HK.out.keep (Fr.of_below HB2.out hb0)⟩⟩
      · obtain rfl : k = nl := by omega
        have hck : ∀ f ∈ l, ckR f = 0 := fun f hf => by
          obtain ⟨j, hj, ej⟩ := List.mem_iff_getElem.1 hf
          exact HN.out j f (by rw [← HLL.out]; exact hj) (by rw [List.getElem?_eq_getElem hj, ej])
        have hpre : preR l = 0 := by unfold preR; rw [if_neg (by rw [HLL.out]; exact h40)]; exact fvR_none hck
        have hk2 := HK.out.keep (Fr.of_below HB.out hb0)
        have hl2 := HL.out.keep (Fr.of_below HB.out hb0)
        have hh2 : Blk wr q tSr _ := (HB.out.block _ HH.out.lt).trans HH.out
        have c0 := hh2.cell 0
        have hkk : decide ((k : Int) < (k : Int)) = false := decide_eq_false (by omega)
        have HAP := Lib.hid (applied_any A Al rows.length c k cl rows l wr hk2.1 hl2.1 (by omega) hok.apply)
        unfold AdPost at HAP
        have HH2 := Lib.hid hh2
        have HK2 := Lib.hid hk2
        have HPR := Lib.hid hpre
        have hzr : b0 ≤ wr.heap.size := Nat.le_trans hb0 HB.out.size
        clear hk2 hl2 hh2 hpre
        go_wp2_with fail
        refine HAP.out.mono ?_
        rintro e w2 ⟨v, r, rfl, ho2, hap, hb2⟩
        obtain ⟨A2, c2, rfl, hk3⟩ := KpC.of_own (b0 := b0) ho2
        have hokr : RowsOk r := hap.ok (fun x hx => by
          rcases List.mem_append.1 hx with h1 | h1
          · exact hok.ck x h1
          · exact hck x h1)
        have hrlen := hap.len
        rw [List.length_append, HLL.out] at hrlen
        have HAPR := Lib.hid hap
        have HK3 := Lib.hid hk3
        have HB2 := Lib.hid (HB.out.trans (hb2.mono HB.out.size))
        have HH3 := Lib.hid (show Blk w2 q tSr _ from (hb2.block _ HH2.out.lt).trans HH2.out)
        have HKR := Lib.hid (HK2.out.keep (Fr.of_below hb2 hzr))
        have hc21 := hk3.1.2.1
        have hc22 := hk3.1.2.2.1
        unfold maxLen at hc22
        clear ho2 hap hb2 hk3 HAP HH2 HK2 HB c0
        go_wp2
        go_loopw [8, 9] (fun v8 v9 wr => RfRel r v8 v9 w2 wr) (fun _ i _ => r.length - (intOf i).toNat)
        case atStart => exact ⟨0, Nat.zero_le _, rfl, rfl, rfl⟩
        case round =>
          rename World => wx
          obtain ⟨i, hi, rfl, rfl, rfl⟩ := hrel
          have hfl := fileN_le (r.take i)
          rw [List.length_take] at hfl
          by_cases hlt2 : i < r.length
          · obtain ⟨f, hf⟩ : ∃ f, r[i]? = some f := ⟨_, List.getElem?_eq_getElem hlt2⟩
            obtain ⟨b, off, rfl, hbb, y0, y1, y2⟩ := HK3.out.1.at_ hf
            obtain ⟨i0, hkf⟩ := key_first (hokr.ck f (List.mem_of_getElem? hf))
            have i0z : (0 : Int) < (f.key.size : Int) := by omega
            have hin : (i : Int) < (r.length : Int) := by omega
            have hft := fileN_take r hf
            have HFT := Lib.hid hft
            obtain ⟨g, hg⟩ : ∃ g, fileN (r.take i) = g := ⟨_, rfl⟩
            rw [hg] at HFT hfl ⊢
            clear hf hft hg
            cases hkb : keyB pF f.key with
            | true =>
              rw [hkb] at hkf HFT
              go_wp2
              go_roundw
              case rel => exact ⟨i + 1, by omega, by go_num, by rw [HFT.out]; go_num, rfl⟩
              case measure => simp [intOf]; omega
            | false =>
              rw [hkb] at hkf HFT
              go_wp2
              go_roundw
              case rel => exact ⟨i + 1, by omega, by go_num, by rw [HFT.out]; rfl, rfl⟩
              case measure => simp [intOf]; omega
          · obtain rfl : i = r.length := by omega
            have htk : r.take r.length = r := List.take_length
            rw [htk] at hfl ⊢
            clear htk
            have hb0x : b0 ≤ wx.heap.size := Nat.le_trans hb0 HB2.out.size
            obtain ⟨m, hm⟩ : ∃ m, n - 44 = m := ⟨_, rfl⟩
            have hh3 := HH3.out
            rw [hm] at hh3
            have z0 := hh3.cell 0
            have z1 := hh3.cell 1
            have z2 := hh3.cell 2
            have g0 := hh3.free 0
            have g1 := hh3.free 1
            have hkl := HLL.out
            have hful : fullB n r l = ((decide (20 < fileN r) || decide (20 < r.length - fileN r)) || decide (m < k + 1)) := by unfold fullB tmB; rw [hm, hkl]
            have HHM := Lib.hid hh3
            have HFL := Lib.hid hful
            clear hh3 hful hkl
            generalize fileN r = g at *
            have w1 : IntKind.i64.wrap ((k : Int) + 1) = (k : Int) + 1 := by rw [IntKind.wrap_i64]; omega
            by_cases h20 : 20 < g
            · have q1 : (20 : Int) < (g : Int) := by omega
              go_wp2
              go_ret
              exact ⟨below_upd HB2.out _, .inr ⟨HPR.out, r, HAPR.out, .inl ⟨by rw [HFL.out, decide_eq_true h20]; rfl, rfl, HH3.out, HKR.out⟩⟩⟩
            · have q1 : decide ((20 : Int) < (g : Int)) = false := decide_eq_false (by omega)
              by_cases h21 : 20 < r.length - g
              · have q2 : (20 : Int) < (r.length : Int) - (g : Int) := by omega
                go_wp2
                go_ret
                exact ⟨below_upd HB2.out _, .inr ⟨HPR.out, r, HAPR.out, .inl ⟨by rw [HFL.out, decide_eq_true h21]; simp, rfl, HH3.out, HKR.out⟩⟩⟩
              · have q2 : decide ((20 : Int) < (r.length : Int) - (g : Int)) = false := decide_eq_false (by omega)
                by_cases h22 : m < k + 1
                · have q3 : (m : Int) < (k : Int) + 1 := by omega
                  go_wp2
                  go_ret
                  exact ⟨below_upd HB2.out _, .inr ⟨HPR.out, r, HAPR.out, .inl ⟨by rw [HFL.out, decide_eq_true h22]; simp, rfl, HH3.out, HKR.out⟩⟩⟩
                · have q3 : decide ((m : Int) < (k : Int) + 1) = false := decide_eq_false (by omega)
                  have hfu : fullB n r l = false := by rw [HFL.out, decide_eq_false h20, decide_eq_false h21, decide_eq_false h22]; rfl
                  have HFU := Lib.hid hfu
                  clear hfu
                  have w2 : IntKind.i64.wrap ((m : Int) - (u : Int)) = (m : Int) - (u : Int) := by rw [IntKind.wrap_i64]; omega
                  go_wp2_with fail
                  go_quiet (fail)
                  obtain ⟨w4, hw4⟩ : ∃ z, z = wx.drewN nq := ⟨_, rfl⟩
                  rw [← hw4]
                  have hbx : Below wx.heap.size wx w4 := by rw [hw4]; exact below_drewN (Below.refl _ _) nq
                  have HB4 := Lib.hid (HB2.out.trans (hbx.mono HB2.out.size))
                  have HH4 := Lib.hid (show Blk w4 q tSr _ from (hbx.block _ HHM.out.lt).trans HHM.out)
                  have HK4 := Lib.hid (HK3.out.keep (Fr.of_below (b0 := b0) hbx hb0x))
                  clear hw4 hbx z0 z1 z2 g0 g1 q1 q2 q3 w2
                  have z0 := HH4.out.cell 0
                  have g0 := HH4.out.free 0
                  have z1 := HH4.out.cell 1
                  have g1 := HH4.out.free 1
                  by_cases h23 : m - u < k + 1
                  · have q4 : (m : Int) - (u : Int) < (k : Int) + 1 := by omega
                    have hus : usedR n u l.length = k + 1 := by unfold usedR; rw [hm, HLL.out, if_pos h23]; omega
                    have hh7 := ((HH4.out.set 1 (.int .i64 0)).set 1 (.int .i64 ((k : Int) + 1))).set 0 (.slice A2 r.length c2)
                    have hk7 := ((HK4.out.keep ((Fr.refl b0 w4).setNew (i := 1) HH4.out (by decide) (by decide) hqb (.int .i64 0))).keep ((Fr.refl b0 _).setNew (i := 1) (HH4.out.set 1 (.int .i64 0)) (by decide) (by decide) hqb (.int .i64 ((k : Int) + 1)))).keep
                      ((Fr.refl b0 _).setNew (i := 0) ((HH4.out.set 1 (.int .i64 0)).set 1 (.int .i64 ((k : Int) + 1))) (by decide) (by decide) hqb (.slice A2 r.length c2))
                    have hb7 := (((below_upd HB4.out (fun k => k = q)).set (b := q) (i := 1) (.inr rfl) (.int .i64 0)).set (b := q) (i := 1) (.inr rfl) (.int .i64 ((k : Int) + 1))).set (b := q) (i := 0) (.inr rfl) (.slice A2 r.length c2)
                    have HH7 := Lib.hid hh7
                    have HK7 := Lib.hid hk7
                    have HB7 := Lib.hid hb7
                    have HUS := Lib.hid hus
                    clear hh7 hk7 hb7 hus
                    go_wp2
                    go_ret
                    exact ⟨HB7.out, .inr ⟨HPR.out, r, HAPR.out, .inr ⟨HFU.out, rfl, A2, c2, by rw [hm, HUS.out]; exact HH7.out, HK7.out⟩⟩⟩
                  · have q4 : decide ((m : Int) - (u : Int) < (k : Int) + 1) = false := decide_eq_false (by omega)
                    have hus : usedR n u l.length = u + k + 1 := by unfold usedR; rw [hm, HLL.out, if_neg h23]
                    have hh7 := (HH4.out.set 1 (.int .i64 ((u : Int) + (k : Int) + 1))).set 0 (.slice A2 r.length c2)
                    have hk7 := (HK4.out.keep ((Fr.refl b0 w4).setNew (i := 1) HH4.out (by decide) (by decide) hqb (.int .i64 ((u : Int) + (k : Int) + 1)))).keep
                      ((Fr.refl b0 _).setNew (i := 0) (HH4.out.set 1 (.int .i64 ((u : Int) + (k : Int) + 1))) (by decide) (by decide) hqb (.slice A2 r.length c2))
                    have hb7 := ((below_upd HB4.out (fun k => k = q)).set (b := q) (i := 1) (.inr rfl) (.int .i64 ((u : Int) + (k : Int) + 1))).set (b := q) (i := 0) (.inr rfl) (.slice A2 r.length c2)
                    have HH7 := Lib.hid hh7
                    have HK7 := Lib.hid hk7
                    have HB7 := Lib.hid hb7
                    have HUS := Lib.hid hus
                    clear hh7 hk7 hb7 hus
                    go_wp2
                    go_ret
                    exact ⟨HB7.out, .inr ⟨HPR.out, r, HAPR.out, .inr ⟨HFU.out, rfl, A2, c2, by rw [hm, HUS.out]; exact HH7.out, HK7.out⟩⟩⟩
end Go.Proofs.Ytgkenknplepmeaa
