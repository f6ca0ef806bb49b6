/-
  WALKS: slices.symMergeCmpFunc of changes: the general step, and the whole.
-/
import Derived.Test.YtgkenknplepmeaaSymB
namespace Go.Proofs.Ytgkenknplepmeaa
open Go.RowKit Go.Sort Go.Shelf

theorem srt_of_sg {d d' : Array Ch} {a b a' b' : Nat} (h : sg d' a' (b' - a') = sg d a (b - a)) (hs : Srt d a b) : Srt d' a' b' := Srt.of (by rw [h]; exact hs.pw)
/-- World W is a world of the sort's, with the array d. -/
def Hs (w : World) (blk off z : Nat) (W : World) (d : Array Ch) : Prop := d.size = z ∧ ∃ q os, W = SoW w blk off q d os
theorem Hs.holds {w W : World} {blk off z : Nat} {d0 d : Array Ch} (hH : HoldsK encC 3 w blk off d0) (hz : d0.size = z) (hb : blk < w.heap.size) (h : Hs w blk off z W d) : HoldsK encC 3 W blk off d := by
  obtain ⟨h1, q, os, rfl⟩ := h
  exact SoW.holds hH hb (h1.trans hz.symm)
theorem Hs.lt {w W : World} {blk off z : Nat} {d : Array Ch} (hb : blk < w.heap.size) (h : Hs w blk off z W d) : blk < W.heap.size := by
  obtain ⟨h1, q, os, rfl⟩ := h
  exact SoW.lt hb
theorem Hs.next {w W W' : World} {blk off z q : Nat} {d d' : Array Ch} {os : Array Obj} (hb : blk < w.heap.size) (h : Hs w blk off z W d) (h2 : W' = SoW W blk off q d' os) (hs : d'.size = d.size) : Hs w blk off z W' d' := by
  obtain ⟨h1, q1, os1, rfl⟩ := h
  exact ⟨hs.trans h1, _, _, h2.trans (SoW.next hb hs)⟩
/-- Where the halves are cut: on the way. nn = mid + m. -/
def FndC (w : World) (blk off a m b mid : Nat) (d : Array Ch) (g s r : Nat) (wr : World) : Prop :=
  a ≤ s ∧ s ≤ r ∧ r ≤ m ∧ r ≤ mid ∧ mid + m ≤ s + b ∧ r - s ≤ g ∧ Hs w blk off d.size wr d ∧
  (s = a ∨ s + b = mid + m ∨ (a < s ∧ mid + m - s < b ∧ ltC d[mid + m - s]! d[s - 1]! = false)) ∧ (r = m ∨ r = mid ∨ (r < m ∧ r < mid ∧ ltC d[mid + m - 1 - r]! d[r]! = true))
theorem FndC.up {w wr wr' : World} {blk off a m b mid g s r c : Nat} {d : Array Ch} (F : FndC w blk off a m b mid d g s r wr) (h1 : s ≤ c) (h2 : c < r) (hl : ltC d[mid + m - 1 - c]! d[c]! = false) (hw : Hs w blk off d.size wr' d) : FndC w blk off a m b mid d (r - (c + 1)) (c + 1) r wr' := by
  obtain ⟨q1, q2, q3, q4, q5, q6, q7, q8, q9⟩ := F
  refine ⟨by omega, by omega, q3, q4, by omega, Nat.le_refl _, hw, .inr (.inr ⟨by omega, by omega, ?_⟩), q9⟩
  rw [show mid + m - (c + 1) = mid + m - 1 - c by omega, show c + 1 - 1 = c by omega]; exact hl
theorem FndC.down {w wr wr' : World} {blk off a m b mid g s r c : Nat} {d : Array Ch} (F : FndC w blk off a m b mid d g s r wr) (h1 : s ≤ c) (h2 : c < r) (hl : ltC d[mid + m - 1 - c]! d[c]! = true) (hw : Hs w blk off d.size wr' d) : FndC w blk off a m b mid d (c - s) s c wr' := by
  obtain ⟨q1, q2, q3, q4, q5, q6, q7, q8, q9⟩ := F
  exact ⟨q1, h1, by omega, by omega, q5, Nat.le_refl _, hw, q8, .inr (.inr ⟨by omega, by omega, hl⟩)⟩
/-- What the cut gives. -/
structure CutAt (a m b mid s e : Nat) (d : Array Ch) : Prop where
  he : s + e = mid + m
  hs1 : a ≤ s
  hs2 : s ≤ m
  he1 : m ≤ e
  he2 : e ≤ b
  h12 : ∀ x y, a ≤ x → x < s → e ≤ y → y < b → leC d[x]! d[y]! = true
  h21 : ∀ x y, s ≤ x → x < m → m ≤ y → y < e → leC d[x]! d[y]! = false
theorem FndC.cut {w wr : World} {blk off a m b mid g s : Nat} {d : Array Ch} (F : FndC w blk off a m b mid d g s s wr) (hl : Srt d a m) (hr : Srt d m b) : CutAt a m b mid s (mid + m - s) d := by
  obtain ⟨q1, q2, q3, q4, q5, q6, q7, q8, q9⟩ := F
  refine ⟨by omega, q1, q3, by omega, by omega, fun x y h1 h2 h3 h4 => ?_, fun x y h1 h2 h3 h4 => ?_⟩
  · rcases q8 with q8 | q8 | ⟨q81, q82, q83⟩
    · omega
    · omega
    · exact leC_trans _ _ _ (hl.le h1 (show x ≤ s - 1 by omega) (by omega)) (leC_trans _ _ _ (by rw [leC_eq, q83]; rfl) (hr.le (show m ≤ mid + m - s by omega) h3 h4))
  · rcases q9 with q9 | q9 | ⟨q91, q92, q93⟩
    · omega
    · omega
    · rw [leC_eq, leC_ltC (hr.le h3 (show y ≤ mid + m - 1 - s by omega) (by omega)) (ltC_leC q93 (hl.le q1 h1 h2))]; rfl
/-- Behind the rotation. -/
structure Cut1 (a m b mid s e : Nat) (d d1 : Array Ch) : Prop extends CutAt a m b mid s e d where
  rot : Rotd s m e d d1
  l1 : Srt d1 a s
  r1 : Srt d1 s mid
theorem CutAt.rotd {a m b mid s e : Nat} {d d1 : Array Ch} (C : CutAt a m b mid s e d) (hl : Srt d a m) (hr : Srt d m b) (h : Rotd s m e d d1) : Cut1 a m b mid s e d d1 := by
  have h1 := C.he
  have h2 := C.hs2
  have h3 := C.he1
  have h4 := C.he2
  have h5 := C.hs1
  have hr2 := h.eq
  rw [sg_cut d1 (a := s) (m := mid) (b := e) (by omega) (by omega)] at hr2
  have hr3 : sg d1 s (mid - s) = sg d m (e - m) ∧ sg d1 mid (e - mid) = sg d s (m - s) := List.append_inj hr2 (by rw [sg_len, sg_len]; omega)
  exact ⟨C, h, srt_of_sg (h.turns.sg a (s - a) (by omega)) (hl.sub (Nat.le_refl _) h2), srt_of_sg hr3.1 (hr.sub (Nat.le_refl _) h4)⟩
/-- Behind the first merge. -/
structure Cut2 (a m b mid s e : Nat) (d d1 d2 : Array Ch) : Prop extends Cut1 a m b mid s e d d1 where
  mrg : Mrg a s mid d1 d2
  l2 : Srt d2 mid e
  r2 : Srt d2 e b
theorem Cut1.mrgd {a m b mid s e : Nat} {d d1 d2 : Array Ch} (C : Cut1 a m b mid s e d d1) (hl : Srt d a m) (hr : Srt d m b) (ham : a ≤ mid) (hmb : mid ≤ b) (h : Mrg a s mid d1 d2) : Cut2 a m b mid s e d d1 d2 := by
  have h1 := C.he
  have h2 := C.hs2
  have h3 := C.he1
  have h4 := C.he2
  have h5 := C.hs1
  have hr2 := C.rot.eq
  rw [sg_cut d1 (a := s) (m := mid) (b := e) (by omega) (by omega)] at hr2
  have hr3 : sg d1 s (mid - s) = sg d m (e - m) ∧ sg d1 mid (e - mid) = sg d s (m - s) := List.append_inj hr2 (by rw [sg_len, sg_len]; omega)
  exact ⟨C, h, srt_of_sg ((h.turns.sg mid (e - mid) (by omega)).trans hr3.2) (hl.sub h5 (Nat.le_refl _)), srt_of_sg ((h.turns.sg e (b - e) (by omega)).trans (C.rot.turns.sg e (b - e) (by omega))) (hr.sub h3 (Nat.le_refl _))⟩
theorem Cut2.done {a m b mid s e : Nat} {d d1 d2 d3 : Array Ch} (C : Cut2 a m b mid s e d d1 d2) (ham : a ≤ mid) (hmb : mid ≤ b) (h : Mrg mid e b d2 d3) : Mrg a m b d d3 := Mrg.whole C.he C.hs1 C.hs2 C.he1 C.he2 ham hmb C.h12 C.h21 C.rot C.mrg h
abbrev symCall (blk off cap a m b z : Nat) (w : World) (Q : Ending → World → Prop) : Prop := Calls Try.prog 111 #[.slice (some ⟨blk, off, none⟩) z cap, .int .i64 a, .int .i64 m, .int .i64 b, .func (.func 73) #[] #[]] w Q
set_option maxHeartbeats 8000000 in
set_option maxRecDepth 1000000 in
theorem symC_any (blk off cap a m b : Nat) (d : Array Ch) (w : World) (hH : HoldsK encC 3 w blk off d) (hblk : blk < w.heap.size) (ham : a + 1 < m) (hmb : m + 1 < b) (hb : b ≤ d.size) (hsz : d.size ≤ 1000000) (hl : Srt d a m) (hr : Srt d m b)
    (IH : ∀ (a' m' b' : Nat) (d' : Array Ch) (w' : World), b' - a' < b - a → HoldsK encC 3 w' blk off d' → blk < w'.heap.size → a' < m' → m' < b' → b' ≤ d'.size → d'.size = d.size → Srt d' a' m' → Srt d' m' b' → symCall blk off cap a' m' b' d.size w' (SymPost w' blk off a' m' b' d')) :
    symCall blk off cap a m b d.size w (SymPost w blk off a m b d) := by
  unfold symCall at *
  have HH := Lib.hid hH
  have HB := Lib.hid hblk
  have HSL := Lib.hid hl
  have HSR := Lib.hid hr
  have HI := Lib.hid IH
  have HRO := Lib.hid (fun (x y u : Nat) (dk : Array Ch) (W : World) (h1 : HoldsK encC 3 W blk off dk) (h2 : blk < W.heap.size) (h3 : x < y) (h3' : y < u) (h4 : u ≤ dk.size) (h5 : dk.size = d.size) => (h5 ▸ rotate_any blk off cap x y u (.func (.func 73) #[] #[]) dk W h1 h2 h3 h3' h4 (by omega) : Calls Try.prog 117 #[.slice (some ⟨blk, off, none⟩) d.size cap, .int .i64 x, .int .i64 y, .int .i64 u, .func (.func 73) #[] #[]] W fun e w' => e = .returned (.tuple #[]) ∧ ∃ q d' os, w' = SoW W blk off q d' os ∧ Rotd x y u dk d'))
  clear hH hblk hl hr IH
  have em : ((b : Int) - (m : Int) == 1) = false := by rw [beq_eq_false_iff_ne]; omega
  have en : ((m : Int) - (a : Int) == 1) = false := by rw [beq_eq_false_iff_ne]; omega
  generalize hz : d.size = z at *
  have HZ := Lib.hid hz
  clear hz
  have mixed : Try.prog.follows .mixedOrders = true := by kernel_rfl
  obtain ⟨mid, hmid⟩ : ∃ mid, mid = (a + b) / 2 := ⟨_, rfl⟩
  have emid : ((a : Int) + (b : Int)) / 2 = (mid : Int) := by omega
  have m1 : a < mid := by omega
  have m2 : mid < b := by omega
  have m3 : a + b ≤ 2 * mid + 1 := by omega
  have m4 : 2 * mid ≤ a + b := by omega
  clear hmid
  go_enter Try.func111, Try.ntmps111
  by_cases hcase : mid < m
  · have cz : (mid : Int) < (m : Int) := by omega
    go_wp2
    go_loopg [20, 21] b (fun kx v20 v21 wr => ∃ (s r : Nat), v20 = .int .i64 s ∧ v21 = .int .i64 r ∧ FndC w blk off a m b mid d kx s r wr)
    case atStart => exact ⟨mid + m - b, mid, by go_num, rfl, by omega, by omega, by omega, Nat.le_refl _, by omega, by omega, ⟨rfl, 0, #[], SoW.start HH.out⟩, .inr (.inl (by omega)), .inr (.inl rfl)⟩
    case round =>
      obtain ⟨s, r, rfl, rfl, hF⟩ := hrel
      have HF := Lib.hid hF
      obtain ⟨q1, q2, q3, q4, q5, q6, q7, _, _⟩ := hF
      have HQ := Lib.hid q7
      clear q7
      by_cases hlt : s < r
      · have hHd : HoldsK encC 3 wr blk off d := HQ.out.holds HH.out rfl HB.out
        have hbl : blk < wr.heap.size := HQ.out.lt HB.out
        obtain ⟨j0, j1, j2⟩ := (Cel.of hHd (show (s + r) / 2 < d.size by rw [HZ.out]; omega)).grown hbl
        obtain ⟨i0, i1, i2⟩ := (Cel.of hHd (show mid + m - 1 - (s + r) / 2 < d.size by rw [HZ.out]; omega)).grown hbl
        obtain ⟨c, hc⟩ : ∃ c, c = (s + r) / 2 := ⟨_, rfl⟩
        rw [← hc] at i0 i1 i2 j0 j1 j2
        have e0 : ((s : Int) + (r : Int)) / 2 = (c : Int) := by omega
        have c1 : s ≤ c := by omega
        have c2 : c < r := by omega
        have c3 : (c : Int) < (z : Int) := by omega
        obtain ⟨pc, hpc⟩ : ∃ pc, pc = mid + m - 1 - c := ⟨_, rfl⟩
        have ep : (mid : Int) + (m : Int) - 1 - (c : Int) = (pc : Int) := by omega
        have ep2 : (pc : Int) < (z : Int) := by omega
        have ew : IntKind.i64.wrap (pc : Int) = (pc : Int) := by rw [IntKind.wrap_i64]; omega
        have ew2 : IntKind.i64.wrap ((mid : Int) + (m : Int) - 1 - (c : Int)) = (pc : Int) := by rw [ep, ew]
        rw [← hpc] at i0 i1 i2
        obtain ⟨y, hy⟩ : ∃ y, y = d[c]! := ⟨_, rfl⟩
        obtain ⟨x, hx⟩ : ∃ x, x = d[pc]! := ⟨_, rfl⟩
        rw [← hx] at i0 i1 i2
        rw [← hy] at j0 j1 j2
        have hcg := fun n os => literal_at x y (grow (wr.drewN n) os)
        have HX := Lib.hid (And.intro hx hy)
        have HP := Lib.hid hpc
        clear hpc
        have hgr : ∀ n os, Hs w blk off d.size (grow (wr.drewN n) os) d := fun n os => by obtain ⟨h1, q, os1, h2⟩ := HQ.out; exact ⟨h1, _, _, SoW.grown h2 n os⟩
        have HG := Lib.hid hgr
        clear hHd hbl hx hy hc hgr
        by_cases hlv : cfC x y < 0
        · have hl : ltC d[mid + m - 1 - c]! d[c]! = true := by rw [← HP.out, ← HX.out.1, ← HX.out.2]; exact cfC_lt hlv
          have HL := Lib.hid hl
          clear hl
          generalize cfC x y = rr at *
          go_wp2_with fail
          go_quiet_grown (first | (go_at_call 73; refine Calls.grown_of (hcg _ _)))
          go_wp2
          go_roundg (c - s)
          case measure => omega
          case rel => exact ⟨s, c, rfl, by first | rfl | go_num | (congr 1; omega), HF.out.down c1 c2 HL.out (HG.out _ _)⟩
        · have hl : ltC d[mid + m - 1 - c]! d[c]! = false := by rw [← HP.out, ← HX.out.1, ← HX.out.2]; exact cfC_ge hlv
          have HL := Lib.hid hl
          clear hl
          generalize cfC x y = rr at *
          have hd : decide (rr < 0) = false := decide_eq_false hlv
          go_wp2_with fail
          go_quiet_grown (first | (go_at_call 73; refine Calls.grown_of (hcg _ _)))
          go_wp2
          go_roundg (r - (c + 1))
          case measure => omega
          case rel => exact ⟨c + 1, r, by first | rfl | go_num | (congr 1; omega), rfl, HF.out.up c1 c2 HL.out (HG.out _ _)⟩
      · obtain rfl : s = r := by omega
        have HC := Lib.hid (HF.out.cut HSL.out HSR.out)
        clear HF
        obtain ⟨e, he⟩ : ∃ e, e = mid + m - s := ⟨_, rfl⟩
        rw [← he] at HC
        have ee : (mid : Int) + (m : Int) - (s : Int) = (e : Int) := by omega
        have e1 : m ≤ e := by omega
        have e2 : e ≤ b := by omega
        have e3 : s + e = mid + m := by omega
        clear he
        by_cases hr1 : s < m ∧ m < e
        · have t1 : (s : Int) < (m : Int) := by omega
          have t2 : (m : Int) < (e : Int) := by omega
          have HCR := Lib.hid (HRO.out s m e d wr (HQ.out.holds HH.out rfl HB.out) (HQ.out.lt HB.out) hr1.1 hr1.2 (by rw [HZ.out]; omega) HZ.out)
          go_wp2_with fail
          refine HCR.out.mono ?_
          rintro e0 w1 ⟨rfl, q0, d1, os0, hw1, hrot⟩
          have H1 := Lib.hid (HQ.out.next HB.out hw1 hrot.turns.size)
          have HC1 := Lib.hid (HC.out.rotd HSL.out HSR.out hrot)
          clear hw1 hrot HCR
          by_cases hr2 : a < s ∧ s < mid
          · have t3 : (a : Int) < (s : Int) := by omega
            have t4 : (s : Int) < (mid : Int) := by omega
            have HCM := Lib.hid (HI.out a s mid d1 w1 (by omega) (H1.out.holds HH.out rfl HB.out) (H1.out.lt HB.out) hr2.1 hr2.2 (by rw [H1.out.1, HZ.out]; omega) (by rw [H1.out.1, HZ.out]) HC1.out.l1 HC1.out.r1)
            go_wp2_with fail
            refine HCM.out.mono ?_
            rintro e0 w2 ⟨rfl, q0, d2, os0, hw2, hmrg⟩
            have H2 := Lib.hid (H1.out.next HB.out hw2 hmrg.turns.size)
            have HC2 := Lib.hid (HC1.out.mrgd HSL.out HSR.out (by omega) (by omega) hmrg)
            clear hw2 hmrg HCM
            by_cases hr3 : mid < e ∧ e < b
            · have t5 : (mid : Int) < (e : Int) := by omega
              have t6 : (e : Int) < (b : Int) := by omega
              have HCN := Lib.hid (HI.out mid e b d2 _ (by omega) (H2.out.holds HH.out rfl HB.out) (H2.out.lt HB.out) hr3.1 hr3.2 (by rw [H2.out.1, HZ.out]; omega) (by rw [H2.out.1, HZ.out]) HC2.out.l2 HC2.out.r2)
              go_wp2_with fail
              all_goals try exact t2 _ (by assumption) (by assumption)
              all_goals try exact t4 _ (by assumption) (by assumption)
              all_goals (
                refine HCN.out.mono ?_
                rintro e0 w3 ⟨rfl, q0, d3, os0, hw3, hmrg3⟩
                have H3 := Lib.hid (H2.out.next HB.out hw3 hmrg3.turns.size)
                have HC3 := Lib.hid (HC2.out.done (by omega) (by omega) hmrg3)
                clear hw3 hmrg3 HCN
                go_wp2
                go_end0
                obtain ⟨_, q, os, hq⟩ := H3.out
                exact ⟨rfl, q, d3, os, hq, HC3.out⟩)
            · have t5 : ¬ ((mid : Int) < (e : Int) ∧ (e : Int) < (b : Int)) := by omega
              have hmrg3 : Mrg mid e b d2 d2 := by
                rcases Nat.lt_or_ge mid e with h | h
                · obtain rfl : e = b := by omega
                  exact Mrg.skip_r d2 (by omega)
                · obtain rfl : mid = e := by omega
                  exact Mrg.skip_l d2 (by omega)
              have t6 : ∀ P : Prop, (mid : Int) < (e : Int) → (e : Int) < (b : Int) → P := fun P h1 h2 => absurd ⟨h1, h2⟩ t5
              have HC3 := Lib.hid (HC2.out.done (by omega) (by omega) hmrg3)
              go_wp2
              all_goals (
                go_end0
                obtain ⟨_, q, os, hq⟩ := H2.out
                exact ⟨rfl, q, d2, os, hq, HC3.out⟩)
          · have t3 : ¬ ((a : Int) < (s : Int) ∧ (s : Int) < (mid : Int)) := by omega
            have hmrg : Mrg a s mid d1 d1 := by
              rcases Nat.lt_or_ge a s with h | h
              · obtain rfl : s = mid := by omega
                exact Mrg.skip_r d1 (by omega)
              · obtain rfl : a = s := by omega
                exact Mrg.skip_l d1 (by omega)
            have t4 : ∀ P : Prop, (a : Int) < (s : Int) → (s : Int) < (mid : Int) → P := fun P h1 h2 => absurd ⟨h1, h2⟩ t3
            obtain ⟨w2, hw2⟩ : ∃ w2, w2 = w1 := ⟨_, rfl⟩
            obtain ⟨d2, hd2⟩ : ∃ d2, d2 = d1 := ⟨_, rfl⟩
            have H2 := Lib.hid (show Hs w blk off d.size w2 d2 by rw [hw2, hd2]; exact H1.out)
            have HC2 := Lib.hid (show Cut2 a m b mid s e d d1 d2 by rw [hd2]; exact HC1.out.mrgd HSL.out HSR.out (by omega) (by omega) hmrg)
            clear hd2
            subst hw2
            by_cases hr3 : mid < e ∧ e < b
            · have t5 : (mid : Int) < (e : Int) := by omega
              have t6 : (e : Int) < (b : Int) := by omega
              have HCN := Lib.hid (HI.out mid e b d2 _ (by omega) (H2.out.holds HH.out rfl HB.out) (H2.out.lt HB.out) hr3.1 hr3.2 (by rw [H2.out.1, HZ.out]; omega) (by rw [H2.out.1, HZ.out]) HC2.out.l2 HC2.out.r2)
              go_wp2_with fail
              all_goals try exact t2 _ (by assumption) (by assumption)
              all_goals try exact t4 _ (by assumption) (by assumption)
              all_goals (
                refine HCN.out.mono ?_
                rintro e0 w3 ⟨rfl, q0, d3, os0, hw3, hmrg3⟩
                have H3 := Lib.hid (H2.out.next HB.out hw3 hmrg3.turns.size)
                have HC3 := Lib.hid (HC2.out.done (by omega) (by omega) hmrg3)
                clear hw3 hmrg3 HCN
                go_wp2
                go_end0
                obtain ⟨_, q, os, hq⟩ := H3.out
                exact ⟨rfl, q, d3, os, hq, HC3.out⟩)
            · have t5 : ¬ ((mid : Int) < (e : Int) ∧ (e : Int) < (b : Int)) := by omega
              have hmrg3 : Mrg mid e b d2 d2 := by
                rcases Nat.lt_or_ge mid e with h | h
                · obtain rfl : e = b := by omega
                  exact Mrg.skip_r d2 (by omega)
                · obtain rfl : mid = e := by omega
                  exact Mrg.skip_l d2 (by omega)
              have t6 : ∀ P : Prop, (mid : Int) < (e : Int) → (e : Int) < (b : Int) → P := fun P h1 h2 => absurd ⟨h1, h2⟩ t5
              have HC3 := Lib.hid (HC2.out.done (by omega) (by omega) hmrg3)
              go_wp2
              all_goals (
                go_end0
                obtain ⟨_, q, os, hq⟩ := H2.out
                exact ⟨rfl, q, d2, os, hq, HC3.out⟩)
        · have t1 : ¬ ((s : Int) < (m : Int) ∧ (m : Int) < (e : Int)) := by omega
          have hrot : Rotd s m e d d := by
            rcases Nat.lt_or_ge s m with h | h
            · obtain rfl : m = e := by omega
              exact Rotd.skip_r d (by omega)
            · obtain rfl : s = m := by omega
              exact Rotd.skip_l d (by omega)
          have t2 : ∀ P : Prop, (s : Int) < (m : Int) → (m : Int) < (e : Int) → P := fun P h1 h2 => absurd ⟨h1, h2⟩ t1
          obtain ⟨w1, hw1⟩ : ∃ w1, w1 = wr := ⟨_, rfl⟩
          obtain ⟨d1, hd1⟩ : ∃ d1, d1 = d := ⟨_, rfl⟩
          have H1 := Lib.hid (show Hs w blk off d.size w1 d1 by rw [hw1, hd1]; exact HQ.out)
          have HC1 := Lib.hid (show Cut1 a m b mid s e d d1 by rw [hd1]; exact HC.out.rotd HSL.out HSR.out hrot)
          clear hd1
          by_cases hr2 : a < s ∧ s < mid
          · exfalso; omega
          · have t3 : ¬ ((a : Int) < (s : Int) ∧ (s : Int) < (mid : Int)) := by omega
            have hmrg : Mrg a s mid d1 d1 := by
              rcases Nat.lt_or_ge a s with h | h
              · obtain rfl : s = mid := by omega
                exact Mrg.skip_r d1 (by omega)
              · obtain rfl : a = s := by omega
                exact Mrg.skip_l d1 (by omega)
            have t4 : ∀ P : Prop, (a : Int) < (s : Int) → (s : Int) < (mid : Int) → P := fun P h1 h2 => absurd ⟨h1, h2⟩ t3
            obtain ⟨w2, hw2⟩ : ∃ w2, w2 = w1 := ⟨_, rfl⟩
            obtain ⟨d2, hd2⟩ : ∃ d2, d2 = d1 := ⟨_, rfl⟩
            have H2 := Lib.hid (show Hs w blk off d.size w2 d2 by rw [hw2, hd2]; exact H1.out)
            have HC2 := Lib.hid (show Cut2 a m b mid s e d d1 d2 by rw [hd2]; exact HC1.out.mrgd HSL.out HSR.out (by omega) (by omega) hmrg)
            clear hd2
            subst hw2
            subst hw1
            by_cases hr3 : mid < e ∧ e < b
            · have t5 : (mid : Int) < (e : Int) := by omega
              have t6 : (e : Int) < (b : Int) := by omega
              have HCN := Lib.hid (HI.out mid e b d2 _ (by omega) (H2.out.holds HH.out rfl HB.out) (H2.out.lt HB.out) hr3.1 hr3.2 (by rw [H2.out.1, HZ.out]; omega) (by rw [H2.out.1, HZ.out]) HC2.out.l2 HC2.out.r2)
              go_wp2_with fail
              all_goals try exact t2 _ (by assumption) (by assumption)
              all_goals try exact t4 _ (by assumption) (by assumption)
              all_goals (
                refine HCN.out.mono ?_
                rintro e0 w3 ⟨rfl, q0, d3, os0, hw3, hmrg3⟩
                have H3 := Lib.hid (H2.out.next HB.out hw3 hmrg3.turns.size)
                have HC3 := Lib.hid (HC2.out.done (by omega) (by omega) hmrg3)
                clear hw3 hmrg3 HCN
                go_wp2
                go_end0
                obtain ⟨_, q, os, hq⟩ := H3.out
                exact ⟨rfl, q, d3, os, hq, HC3.out⟩)
            · have t5 : ¬ ((mid : Int) < (e : Int) ∧ (e : Int) < (b : Int)) := by omega
              have hmrg3 : Mrg mid e b d2 d2 := by
                rcases Nat.lt_or_ge mid e with h | h
                · obtain rfl : e = b := by omega
                  exact Mrg.skip_r d2 (by omega)
                · obtain rfl : mid = e := by omega
                  exact Mrg.skip_l d2 (by omega)
              have t6 : ∀ P : Prop, (mid : Int) < (e : Int) → (e : Int) < (b : Int) → P := fun P h1 h2 => absurd ⟨h1, h2⟩ t5
              have HC3 := Lib.hid (HC2.out.done (by omega) (by omega) hmrg3)
              go_wp2
              all_goals (
                go_end0
                obtain ⟨_, q, os, hq⟩ := H2.out
                exact ⟨rfl, q, d2, os, hq, HC3.out⟩)
  · have cz : decide ((mid : Int) < (m : Int)) = false := decide_eq_false (by omega)
    go_wp2
    go_loopg [20, 21] b (fun kx v20 v21 wr => ∃ (s r : Nat), v20 = .int .i64 s ∧ v21 = .int .i64 r ∧ FndC w blk off a m b mid d kx s r wr)
    case atStart => exact ⟨a, m, rfl, rfl, Nat.le_refl _, by omega, Nat.le_refl _, by omega, by omega, by omega, ⟨rfl, 0, #[], SoW.start HH.out⟩, .inl rfl, .inl rfl⟩
    case round =>
      obtain ⟨s, r, rfl, rfl, hF⟩ := hrel
      have HF := Lib.hid hF
      obtain ⟨q1, q2, q3, q4, q5, q6, q7, _, _⟩ := hF
      have HQ := Lib.hid q7
      clear q7
      by_cases hlt : s < r
      · have hHd : HoldsK encC 3 wr blk off d := HQ.out.holds HH.out rfl HB.out
        have hbl : blk < wr.heap.size := HQ.out.lt HB.out
        obtain ⟨j0, j1, j2⟩ := (Cel.of hHd (show (s + r) / 2 < d.size by rw [HZ.out]; omega)).grown hbl
        obtain ⟨i0, i1, i2⟩ := (Cel.of hHd (show mid + m - 1 - (s + r) / 2 < d.size by rw [HZ.out]; omega)).grown hbl
        obtain ⟨c, hc⟩ : ∃ c, c = (s + r) / 2 := ⟨_, rfl⟩
        rw [← hc] at i0 i1 i2 j0 j1 j2
        have e0 : ((s : Int) + (r : Int)) / 2 = (c : Int) := by omega
        have c1 : s ≤ c := by omega
        have c2 : c < r := by omega
        have c3 : (c : Int) < (z : Int) := by omega
        obtain ⟨pc, hpc⟩ : ∃ pc, pc = mid + m - 1 - c := ⟨_, rfl⟩
        have ep : (mid : Int) + (m : Int) - 1 - (c : Int) = (pc : Int) := by omega
        have ep2 : (pc : Int) < (z : Int) := by omega
        have ew : IntKind.i64.wrap (pc : Int) = (pc : Int) := by rw [IntKind.wrap_i64]; omega
        have ew2 : IntKind.i64.wrap ((mid : Int) + (m : Int) - 1 - (c : Int)) = (pc : Int) := by rw [ep, ew]
        rw [← hpc] at i0 i1 i2
        obtain ⟨y, hy⟩ : ∃ y, y = d[c]! := ⟨_, rfl⟩
        obtain ⟨x, hx⟩ : ∃ x, x = d[pc]! := ⟨_, rfl⟩
        rw [← hx] at i0 i1 i2
        rw [← hy] at j0 j1 j2
        have hcg := fun n os => literal_at x y (grow (wr.drewN n) os)
        have HX := Lib.hid (And.intro hx hy)
        have HP := Lib.hid hpc
        clear hpc
        have hgr : ∀ n os, Hs w blk off d.size (grow (wr.drewN n) os) d := fun n os => by obtain ⟨h1, q, os1, h2⟩ := HQ.out; exact ⟨h1, _, _, SoW.grown h2 n os⟩
        have HG := Lib.hid hgr
        clear hHd hbl hx hy hc hgr
        by_cases hlv : cfC x y < 0
        · have hl : ltC d[mid + m - 1 - c]! d[c]! = true := by rw [← HP.out, ← HX.out.1, ← HX.out.2]; exact cfC_lt hlv
          have HL := Lib.hid hl
          clear hl
          generalize cfC x y = rr at *
          go_wp2_with fail
          go_quiet_grown (first | (go_at_call 73; refine Calls.grown_of (hcg _ _)))
          go_wp2
          go_roundg (c - s)
          case measure => omega
          case rel => exact ⟨s, c, rfl, by first | rfl | go_num | (congr 1; omega), HF.out.down c1 c2 HL.out (HG.out _ _)⟩
        · have hl : ltC d[mid + m - 1 - c]! d[c]! = false := by rw [← HP.out, ← HX.out.1, ← HX.out.2]; exact cfC_ge hlv
          have HL := Lib.hid hl
          clear hl
          generalize cfC x y = rr at *
          have hd : decide (rr < 0) = false := decide_eq_false hlv
          go_wp2_with fail
          go_quiet_grown (first | (go_at_call 73; refine Calls.grown_of (hcg _ _)))
          go_wp2
          go_roundg (r - (c + 1))
          case measure => omega
          case rel => exact ⟨c + 1, r, by first | rfl | go_num | (congr 1; omega), rfl, HF.out.up c1 c2 HL.out (HG.out _ _)⟩
      · obtain rfl : s = r := by omega
        have HC := Lib.hid (HF.out.cut HSL.out HSR.out)
        clear HF
        obtain ⟨e, he⟩ : ∃ e, e = mid + m - s := ⟨_, rfl⟩
        rw [← he] at HC
        have ee : (mid : Int) + (m : Int) - (s : Int) = (e : Int) := by omega
        have e1 : m ≤ e := by omega
        have e2 : e ≤ b := by omega
        have e3 : s + e = mid + m := by omega
        clear he
        by_cases hr1 : s < m ∧ m < e
        · have t1 : (s : Int) < (m : Int) := by omega
          have t2 : (m : Int) < (e : Int) := by omega
          have HCR := Lib.hid (HRO.out s m e d wr (HQ.out.holds HH.out rfl HB.out) (HQ.out.lt HB.out) hr1.1 hr1.2 (by rw [HZ.out]; omega) HZ.out)
          go_wp2_with fail
          refine HCR.out.mono ?_
          rintro e0 w1 ⟨rfl, q0, d1, os0, hw1, hrot⟩
          have H1 := Lib.hid (HQ.out.next HB.out hw1 hrot.turns.size)
          have HC1 := Lib.hid (HC.out.rotd HSL.out HSR.out hrot)
          clear hw1 hrot HCR
          by_cases hr2 : a < s ∧ s < mid
          · have t3 : (a : Int) < (s : Int) := by omega
            have t4 : (s : Int) < (mid : Int) := by omega
            have HCM := Lib.hid (HI.out a s mid d1 w1 (by omega) (H1.out.holds HH.out rfl HB.out) (H1.out.lt HB.out) hr2.1 hr2.2 (by rw [H1.out.1, HZ.out]; omega) (by rw [H1.out.1, HZ.out]) HC1.out.l1 HC1.out.r1)
            go_wp2_with fail
            refine HCM.out.mono ?_
            rintro e0 w2 ⟨rfl, q0, d2, os0, hw2, hmrg⟩
            have H2 := Lib.hid (H1.out.next HB.out hw2 hmrg.turns.size)
            have HC2 := Lib.hid (HC1.out.mrgd HSL.out HSR.out (by omega) (by omega) hmrg)
            clear hw2 hmrg HCM
            by_cases hr3 : mid < e ∧ e < b
            · have t5 : (mid : Int) < (e : Int) := by omega
              have t6 : (e : Int) < (b : Int) := by omega
              have HCN := Lib.hid (HI.out mid e b d2 _ (by omega) (H2.out.holds HH.out rfl HB.out) (H2.out.lt HB.out) hr3.1 hr3.2 (by rw [H2.out.1, HZ.out]; omega) (by rw [H2.out.1, HZ.out]) HC2.out.l2 HC2.out.r2)
              go_wp2_with fail
              all_goals try exact t2 _ (by assumption) (by assumption)
              all_goals try exact t4 _ (by assumption) (by assumption)
              all_goals (
                refine HCN.out.mono ?_
                rintro e0 w3 ⟨rfl, q0, d3, os0, hw3, hmrg3⟩
                have H3 := Lib.hid (H2.out.next HB.out hw3 hmrg3.turns.size)
                have HC3 := Lib.hid (HC2.out.done (by omega) (by omega) hmrg3)
                clear hw3 hmrg3 HCN
                go_wp2
                go_end0
                obtain ⟨_, q, os, hq⟩ := H3.out
                exact ⟨rfl, q, d3, os, hq, HC3.out⟩)
            · have t5 : ¬ ((mid : Int) < (e : Int) ∧ (e : Int) < (b : Int)) := by omega
              have hmrg3 : Mrg mid e b d2 d2 := by
                rcases Nat.lt_or_ge mid e with h | h
                · obtain rfl : e = b := by omega
                  exact Mrg.skip_r d2 (by omega)
                · obtain rfl : mid = e := by omega
                  exact Mrg.skip_l d2 (by omega)
              have t6 : ∀ P : Prop, (mid : Int) < (e : Int) → (e : Int) < (b : Int) → P := fun P h1 h2 => absurd ⟨h1, h2⟩ t5
              have HC3 := Lib.hid (HC2.out.done (by omega) (by omega) hmrg3)
              go_wp2
              all_goals (
                go_end0
                obtain ⟨_, q, os, hq⟩ := H2.out
                exact ⟨rfl, q, d2, os, hq, HC3.out⟩)
          · have t3 : ¬ ((a : Int) < (s : Int) ∧ (s : Int) < (mid : Int)) := by omega
            have hmrg : Mrg a s mid d1 d1 := by
              rcases Nat.lt_or_ge a s with h | h
              · obtain rfl : s = mid := by omega
                exact Mrg.skip_r d1 (by omega)
              · obtain rfl : a = s := by omega
                exact Mrg.skip_l d1 (by omega)
            have t4 : ∀ P : Prop, (a : Int) < (s : Int) → (s : Int) < (mid : Int) → P := fun P h1 h2 => absurd ⟨h1, h2⟩ t3
            obtain ⟨w2, hw2⟩ : ∃ w2, w2 = w1 := ⟨_, rfl⟩
            obtain ⟨d2, hd2⟩ : ∃ d2, d2 = d1 := ⟨_, rfl⟩
            have H2 := Lib.hid (show Hs w blk off d.size w2 d2 by rw [hw2, hd2]; exact H1.out)
            have HC2 := Lib.hid (show Cut2 a m b mid s e d d1 d2 by rw [hd2]; exact HC1.out.mrgd HSL.out HSR.out (by omega) (by omega) hmrg)
            clear hd2
            subst hw2
            by_cases hr3 : mid < e ∧ e < b
            · have t5 : (mid : Int) < (e : Int) := by omega
              have t6 : (e : Int) < (b : Int) := by omega
              have HCN := Lib.hid (HI.out mid e b d2 _ (by omega) (H2.out.holds HH.out rfl HB.out) (H2.out.lt HB.out) hr3.1 hr3.2 (by rw [H2.out.1, HZ.out]; omega) (by rw [H2.out.1, HZ.out]) HC2.out.l2 HC2.out.r2)
              go_wp2_with fail
              all_goals try exact t2 _ (by assumption) (by assumption)
              all_goals try exact t4 _ (by assumption) (by assumption)
              all_goals (
                refine HCN.out.mono ?_
                rintro e0 w3 ⟨rfl, q0, d3, os0, hw3, hmrg3⟩
                have H3 := Lib.hid (H2.out.next HB.out hw3 hmrg3.turns.size)
                have HC3 := Lib.hid (HC2.out.done (by omega) (by omega) hmrg3)
                clear hw3 hmrg3 HCN
                go_wp2
                go_end0
                obtain ⟨_, q, os, hq⟩ := H3.out
                exact ⟨rfl, q, d3, os, hq, HC3.out⟩)
            · have t5 : ¬ ((mid : Int) < (e : Int) ∧ (e : Int) < (b : Int)) := by omega
              have hmrg3 : Mrg mid e b d2 d2 := by
                rcases Nat.lt_or_ge mid e with h | h
                · obtain rfl : e = b := by omega
                  exact Mrg.skip_r d2 (by omega)
                · obtain rfl : mid = e := by omega
                  exact Mrg.skip_l d2 (by omega)
              have t6 : ∀ P : Prop, (mid : Int) < (e : Int) → (e : Int) < (b : Int) → P := fun P h1 h2 => absurd ⟨h1, h2⟩ t5
              have HC3 := Lib.hid (HC2.out.done (by omega) (by omega) hmrg3)
              go_wp2
              all_goals (
                go_end0
                obtain ⟨_, q, os, hq⟩ := H2.out
                exact ⟨rfl, q, d2, os, hq, HC3.out⟩)
        · have t1 : ¬ ((s : Int) < (m : Int) ∧ (m : Int) < (e : Int)) := by omega
          have hrot : Rotd s m e d d := by
            rcases Nat.lt_or_ge s m with h | h
            · obtain rfl : m = e := by omega
              exact Rotd.skip_r d (by omega)
            · obtain rfl : s = m := by omega
              exact Rotd.skip_l d (by omega)
          have t2 : ∀ P : Prop, (s : Int) < (m : Int) → (m : Int) < (e : Int) → P := fun P h1 h2 => absurd ⟨h1, h2⟩ t1
          obtain ⟨w1, hw1⟩ : ∃ w1, w1 = wr := ⟨_, rfl⟩
          obtain ⟨d1, hd1⟩ : ∃ d1, d1 = d := ⟨_, rfl⟩
          have H1 := Lib.hid (show Hs w blk off d.size w1 d1 by rw [hw1, hd1]; exact HQ.out)
          have HC1 := Lib.hid (show Cut1 a m b mid s e d d1 by rw [hd1]; exact HC.out.rotd HSL.out HSR.out hrot)
          clear hd1
          by_cases hr2 : a < s ∧ s < mid
          · have t3 : (a : Int) < (s : Int) := by omega
            have t4 : (s : Int) < (mid : Int) := by omega
            have HCM := Lib.hid (HI.out a s mid d1 w1 (by omega) (H1.out.holds HH.out rfl HB.out) (H1.out.lt HB.out) hr2.1 hr2.2 (by rw [H1.out.1, HZ.out]; omega) (by rw [H1.out.1, HZ.out]) HC1.out.l1 HC1.out.r1)
            subst hw1
            go_wp2_with fail
            all_goals try exact t2 _ (by assumption) (by assumption)
            refine HCM.out.mono ?_
            rintro e0 w2 ⟨rfl, q0, d2, os0, hw2, hmrg⟩
            have H2 := Lib.hid (H1.out.next HB.out hw2 hmrg.turns.size)
            have HC2 := Lib.hid (HC1.out.mrgd HSL.out HSR.out (by omega) (by omega) hmrg)
            clear hw2 hmrg HCM
            by_cases hr3 : mid < e ∧ e < b
            · have t5 : (mid : Int) < (e : Int) := by omega
              have t6 : (e : Int) < (b : Int) := by omega
              have HCN := Lib.hid (HI.out mid e b d2 _ (by omega) (H2.out.holds HH.out rfl HB.out) (H2.out.lt HB.out) hr3.1 hr3.2 (by rw [H2.out.1, HZ.out]; omega) (by rw [H2.out.1, HZ.out]) HC2.out.l2 HC2.out.r2)
              go_wp2_with fail
              all_goals try exact t2 _ (by assumption) (by assumption)
              all_goals try exact t4 _ (by assumption) (by assumption)
              all_goals (
                refine HCN.out.mono ?_
                rintro e0 w3 ⟨rfl, q0, d3, os0, hw3, hmrg3⟩
                have H3 := Lib.hid (H2.out.next HB.out hw3 hmrg3.turns.size)
                have HC3 := Lib.hid (HC2.out.done (by omega) (by omega) hmrg3)
                clear hw3 hmrg3 HCN
                go_wp2
                go_end0
                obtain ⟨_, q, os, hq⟩ := H3.out
                exact ⟨rfl, q, d3, os, hq, HC3.out⟩)
            · have t5 : ¬ ((mid : Int) < (e : Int) ∧ (e : Int) < (b : Int)) := by omega
              have hmrg3 : Mrg mid e b d2 d2 := by
                rcases Nat.lt_or_ge mid e with h | h
                · obtain rfl : e = b := by omega
                  exact Mrg.skip_r d2 (by omega)
                · obtain rfl : mid = e := by omega
                  exact Mrg.skip_l d2 (by omega)
              have t6 : ∀ P : Prop, (mid : Int) < (e : Int) → (e : Int) < (b : Int) → P := fun P h1 h2 => absurd ⟨h1, h2⟩ t5
              have HC3 := Lib.hid (HC2.out.done (by omega) (by omega) hmrg3)
              go_wp2
              all_goals (
                go_end0
                obtain ⟨_, q, os, hq⟩ := H2.out
                exact ⟨rfl, q, d2, os, hq, HC3.out⟩)
          · have t3 : ¬ ((a : Int) < (s : Int) ∧ (s : Int) < (mid : Int)) := by omega
            have hmrg : Mrg a s mid d1 d1 := by
              rcases Nat.lt_or_ge a s with h | h
              · obtain rfl : s = mid := by omega
                exact Mrg.skip_r d1 (by omega)
              · obtain rfl : a = s := by omega
                exact Mrg.skip_l d1 (by omega)
            have t4 : ∀ P : Prop, (a : Int) < (s : Int) → (s : Int) < (mid : Int) → P := fun P h1 h2 => absurd ⟨h1, h2⟩ t3
            obtain ⟨w2, hw2⟩ : ∃ w2, w2 = w1 := ⟨_, rfl⟩
            obtain ⟨d2, hd2⟩ : ∃ d2, d2 = d1 := ⟨_, rfl⟩
            have H2 := Lib.hid (show Hs w blk off d.size w2 d2 by rw [hw2, hd2]; exact H1.out)
            have HC2 := Lib.hid (show Cut2 a m b mid s e d d1 d2 by rw [hd2]; exact HC1.out.mrgd HSL.out HSR.out (by omega) (by omega) hmrg)
            clear hd2
            subst hw2
            subst hw1
            by_cases hr3 : mid < e ∧ e < b
            · have t5 : (mid : Int) < (e : Int) := by omega
              have t6 : (e : Int) < (b : Int) := by omega
              have HCN := Lib.hid (HI.out mid e b d2 _ (by omega) (H2.out.holds HH.out rfl HB.out) (H2.out.lt HB.out) hr3.1 hr3.2 (by rw [H2.out.1, HZ.out]; omega) (by rw [H2.out.1, HZ.out]) HC2.out.l2 HC2.out.r2)
              go_wp2_with fail
              all_goals try exact t2 _ (by assumption) (by assumption)
              all_goals try exact t4 _ (by assumption) (by assumption)
              all_goals (
                refine HCN.out.mono ?_
                rintro e0 w3 ⟨rfl, q0, d3, os0, hw3, hmrg3⟩
                have H3 := Lib.hid (H2.out.next HB.out hw3 hmrg3.turns.size)
                have HC3 := Lib.hid (HC2.out.done (by omega) (by omega) hmrg3)
                clear hw3 hmrg3 HCN
                go_wp2
                go_end0
                obtain ⟨_, q, os, hq⟩ := H3.out
                exact ⟨rfl, q, d3, os, hq, HC3.out⟩)
            · have t5 : ¬ ((mid : Int) < (e : Int) ∧ (e : Int) < (b : Int)) := by omega
              have hmrg3 : Mrg mid e b d2 d2 := by
                rcases Nat.lt_or_ge mid e with h | h
                · obtain rfl : e = b := by omega
                  exact Mrg.skip_r d2 (by omega)
                · obtain rfl : mid = e := by omega
                  exact Mrg.skip_l d2 (by omega)
              have t6 : ∀ P : Prop, (mid : Int) < (e : Int) → (e : Int) < (b : Int) → P := fun P h1 h2 => absurd ⟨h1, h2⟩ t5
              have HC3 := Lib.hid (HC2.out.done (by omega) (by omega) hmrg3)
              go_wp2
              all_goals (
                go_end0
                obtain ⟨_, q, os, hq⟩ := H2.out
                exact ⟨rfl, q, d2, os, hq, HC3.out⟩)
theorem sym_any (blk off cap z : Nat) (hz : z ≤ 1000000) : ∀ (n a m b : Nat) (d : Array Ch) (w : World), b - a ≤ n → HoldsK encC 3 w blk off d → blk < w.heap.size → a < m → m < b → b ≤ d.size → d.size = z → Srt d a m → Srt d m b →
    symCall blk off cap a m b z w (SymPost w blk off a m b d)
  | 0, a, m, b, d, w, hn, _, _, h1, h2, _, _, _, _ => by omega
  | n + 1, a, m, b, d, w, hn, hH, hblk, h1, h2, h3, h4, hl, hr => by
    subst h4
    by_cases c1 : m = a + 1
    · exact symA_any blk off cap a m b d w hH hblk c1 h2 h3 hz hr
    by_cases c2 : b = m + 1
    · exact symB_any blk off cap a m b d w hH hblk c2 (by omega) h3 hz hl
    exact symC_any blk off cap a m b d w hH hblk (by omega) (by omega) h3 hz hl hr (fun a' m' b' d' w' g1 g2 g3 g4 g5 g6 g7 g8 g9 => sym_any blk off cap d.size hz n a' m' b' d' w' (by omega) g2 g3 g4 g5 g6 g7 g8 g9)
end Go.Proofs.Ytgkenknplepmeaa
