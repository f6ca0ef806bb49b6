/-
  WALK: row.Apply: what it gives, for lists of changes up to a hundred thousand.
-/
import Derived.Test.YtgkenknplepmeaaSymC
import Derived.Test.YtgkenknplepmeaaCat
namespace Go.Proofs.Ytgkenknplepmeaa
open Go.RowKit Go.Sort Go.Shelf

theorem next_blk {B a j : Nat} (ha : B ∣ a) (hj : B ∣ j) (h : j < a) : j + B ≤ a := by
  have := Nat.le_of_dvd (by omega) (Nat.dvd_sub ha hj)
  omega
theorem same_blk {B a j : Nat} (ha : B ∣ a) (hj : B ∣ j) (h : a ≤ j) (h2 : j < a + B) : j = a := by
  rcases Nat.lt_or_ge a j with e | e
  · have := next_blk hj ha e
    omega
  · omega
/-- Each block of B places is sorted. -/
def Blks (B n : Nat) (d0 d : Array Ch) : Prop := ∀ a, B ∣ a → a < n → SO (sg d0 a (min B (n - a))) (sg d a (min B (n - a)))
/-- On the way: the blocks below a are sorted, the rest is as before. -/
structure Pas (C n : Nat) (d0 dB d : Array Ch) (a : Nat) : Prop where
  size : d.size = n
  dvd : C ∣ a
  le : a ≤ n
  done : ∀ j, C ∣ j → j < a → SO (sg d0 j C) (sg d j C)
  rest : ∀ x, a ≤ x → d[x]! = dB[x]!
theorem Pas.start {C n : Nat} {d0 d : Array Ch} (h : d.size = n) : Pas C n d0 d d 0 := ⟨h, Nat.dvd_zero _, Nat.zero_le _, fun j _ hj => by omega, fun _ _ => rfl⟩
theorem Pas.sg {C n a : Nat} {d0 dB d : Array Ch} (h : Pas C n d0 dB d a) (x m : Nat) (hx : a ≤ x) : Go.Proofs.Ytgkenknplepmeaa.sg d x m = Go.Proofs.Ytgkenknplepmeaa.sg dB x m := seg_congr fun i _ => h.rest _ (by omega)
theorem Pas.step {C n a : Nat} {d0 dB d d' : Array Ch} (h : Pas C n d0 dB d a) (ht : Turns a (a + C) d d') (hs : SO (Go.Proofs.Ytgkenknplepmeaa.sg d0 a C) (Go.Proofs.Ytgkenknplepmeaa.sg d' a C)) (hn : a + C ≤ n) : Pas C n d0 dB d' (a + C) := by
  refine ⟨ht.size.trans h.size, Nat.dvd_add h.dvd (Nat.dvd_refl _), hn, fun j hj hlt => ?_, fun x hx => (ht.out x (.inr hx)).trans (h.rest x (by omega))⟩
  rcases Nat.lt_or_ge j a with e | e
  · rw [ht.sg j C (.inl (next_blk h.dvd hj e))]; exact h.done j hj e
  · rw [same_blk h.dvd hj e hlt]; exact hs
theorem Pas.fin {C n a : Nat} {d0 dB d d' : Array Ch} (h : Pas C n d0 dB d a) (ht : Turns a n d d') (hs : SO (Go.Proofs.Ytgkenknplepmeaa.sg d0 a (n - a)) (Go.Proofs.Ytgkenknplepmeaa.sg d' a (n - a))) (hn : n < a + C) : Blks C n d0 d' := fun j hj hlt => by
  rcases Nat.lt_or_ge j a with e | e
  · have h1 := next_blk h.dvd hj e
    have h2 := h.le
    rw [Nat.min_eq_left (by omega), ht.sg j C (.inl h1)]; exact h.done j hj e
  · rw [same_blk h.dvd hj e (by omega), Nat.min_eq_right (by omega)]; exact hs
theorem Blks.at_ {B n a m : Nat} {d0 d : Array Ch} (h : Blks B n d0 d) (ha : B ∣ a) (han : a < n) (hm : m = min B (n - a)) : SO (sg d0 a m) (sg d a m) := by subst hm; exact h a ha han
theorem half_dvd {B a : Nat} (h : 2 * B ∣ a) : B ∣ a := Nat.dvd_trans (Nat.dvd_mul_left _ _) h
abbrev cmpV : Value := .func (.func 73) #[] #[]
def StbPost (w : World) (blk off : Nat) (d : Array Ch) (e : Ending) (w' : World) : Prop := e = .returned (.tuple #[]) ∧ ∃ q d' os, w' = SoW w blk off q d' os ∧ d'.size = d.size ∧ SO (sg d 0 d.size) (sg d' 0 d.size)
set_option maxHeartbeats 4000000 in
set_option maxRecDepth 1000000 in
theorem stable_any (blk off cap : Nat) (d : Array Ch) (w : World) (hH : HoldsK encC 3 w blk off d) (hblk : blk < w.heap.size) (hsz : d.size ≤ 1000000) :
    Calls Try.prog 93 #[.slice (some ⟨blk, off, none⟩) d.size cap, .int .i64 d.size, cmpV] w (StbPost w blk off d) := by
  unfold cmpV
  have HH := Lib.hid hH
  have HB := Lib.hid hblk
  have HIN := Lib.hid (fun (x y : Nat) (dk : Array Ch) (W : World) (h1 : HoldsK encC 3 W blk off dk) (h2 : blk < W.heap.size) (h3 : x ≤ y) (h4 : y ≤ dk.size) (h5 : dk.size = d.size) => (h5 ▸ insertion_any blk off cap x y dk W h1 h2 h3 h4 (by omega) : Calls Try.prog 110 #[.slice (some ⟨blk, off, none⟩) d.size cap, .int .i64 x, .int .i64 y, .func (.func 73) #[] #[]] W fun e w' =>
      e = .returned (.tuple #[]) ∧ ∃ n d' os, w' = SoW W blk off n d' os ∧ Turns x y dk d' ∧ SO (sg dk x (y - x)) (sg d' x (y - x))))
  have HSY := Lib.hid (fun (x y u : Nat) (dk : Array Ch) (W : World) (h1 : HoldsK encC 3 W blk off dk) (h2 : blk < W.heap.size) (h3 : x < y) (h3' : y < u) (h4 : u ≤ dk.size) (h5 : dk.size = d.size) (h6 : Srt dk x y) (h7 : Srt dk y u) => (sym_any blk off cap d.size hsz (u - x) x y u dk W (Nat.le_refl _) h1 h2 h3 h3' h4 h5 h6 h7 : Calls Try.prog 111 #[.slice (some ⟨blk, off, none⟩) d.size cap, .int .i64 x, .int .i64 y, .int .i64 u, .func (.func 73) #[] #[]] W (SymPost W blk off x y u dk)))
  clear hH hblk
  unfold StbPost
  generalize hz : d.size = z at *
  have HZ := Lib.hid hz
  clear hz
  go_enter Try.func93, Try.ntmps93
  go_wp2
  go_loopw [7, 8] (fun va vb wr => ∃ (a : Nat) (dk : Array Ch), va = .int .i64 a ∧ vb = .int .i64 ((a + 20 : Nat) : Int) ∧ Hs w blk off z wr dk ∧ Pas 20 z d d dk a) (fun va _ _ => z + 20 - (intOf va).toNat)
  case atStart => exact ⟨0, d, rfl, rfl, ⟨HZ.out, 0, #[], SoW.start HH.out⟩, Pas.start HZ.out⟩
  case round =>
    obtain ⟨a, dk, rfl, rfl, hs, hp⟩ := hrel
    have HS := Lib.hid hs
    have HP := Lib.hid hp
    have hle := hp.le
    clear hs hp
    by_cases hlt : a + 20 ≤ z
    · have l1 : (a : Int) + 20 ≤ (z : Int) := by omega
      have HC := Lib.hid (HIN.out a (a + 20) dk wr (HS.out.holds HH.out HZ.out HB.out) (HS.out.lt HB.out) (by omega) (by rw [HP.out.size]; exact hlt) HP.out.size)
      rw [show ((a + 20 : Nat) : Int) = (a : Int) + 20 by omega] at HC
      go_wp2_with fail
      refine HC.out.mono ?_
      rintro e w1 ⟨rfl, q, d1, os, hw1, ht1, hs1⟩
      have H1 := Lib.hid (HS.out.next HB.out hw1 ht1.size)
      have HP1 := Lib.hid (HP.out.step ht1 (by rw [show a + 20 - a = 20 by omega, HP.out.sg a 20 (Nat.le_refl _)] at hs1; exact hs1) hlt)
      clear hw1 ht1 hs1 HC
      go_wp2
      go_roundw
      case rel => exact ⟨a + 20, d1, by go_num, by go_num, H1.out, HP1.out⟩
      case measure => simp [intOf]; omega
    · have l1 : ¬ ((a : Int) + 20 ≤ (z : Int)) := by omega
      have HC := Lib.hid (HIN.out a z dk wr (HS.out.holds HH.out HZ.out HB.out) (HS.out.lt HB.out) hle (by rw [HP.out.size]; exact Nat.le_refl _) HP.out.size)
      go_wp2_with fail
      refine HC.out.mono ?_
      rintro e w1 ⟨rfl, q, d1, os, hw1, ht1, hs1⟩
      have H1 := Lib.hid (HS.out.next HB.out hw1 ht1.size)
      have HB1 := Lib.hid (HP.out.fin ht1 (by rw [HP.out.sg a _ (Nat.le_refl _)] at hs1; exact hs1) (by omega))
      clear hw1 ht1 hs1 HC HP HS
      go_wp2
      go_loopw [6] (fun vB wr => ∃ (B : Nat) (dk : Array Ch), vB = .int .i64 B ∧ 1 ≤ B ∧ B ≤ 2 * z + 20 ∧ Hs w blk off z wr dk ∧ Blks B z d dk) (fun vB _ => z - (intOf vB).toNat)
      case atStart => exact ⟨20, d1, rfl, by omega, by omega, H1.out, HB1.out⟩
      case round =>
        obtain ⟨B, dB, rfl, hB1, hB2, hs, hb⟩ := hrel
        have HS := Lib.hid hs
        have HBL := Lib.hid hb
        clear hs hb H1 HB1
        by_cases hBz : B < z
        · have l2 : (B : Int) < (z : Int) := by omega
          go_wp2
          go_loopw [7, 8] (fun va vb wr => ∃ (a : Nat) (dk : Array Ch), va = .int .i64 a ∧ vb = .int .i64 ((a + 2 * B : Nat) : Int) ∧ Hs w blk off z wr dk ∧ Pas (2 * B) z d dB dk a) (fun va _ _ => z + 2 * B - (intOf va).toNat)
          case atStart => exact ⟨0, dB, rfl, by go_num, HS.out, Pas.start HS.out.1⟩
          case round =>
            obtain ⟨a, dk, rfl, rfl, hs, hp⟩ := hrel
            have HS2 := Lib.hid hs
            have HP := Lib.hid hp
            have hle := hp.le
            clear hs hp HS
            by_cases hlt : a + 2 * B ≤ z
            · have l3 : (a : Int) + 2 * (B : Int) ≤ (z : Int) := by omega
              have so1 : SO (sg d a (a + B - a)) (sg dk a (a + B - a)) := by
                rw [HP.out.sg a _ (Nat.le_refl _)]
                exact HBL.out.at_ (half_dvd HP.out.dvd) (by omega) (by omega)
              have so2 : SO (sg d (a + B) (a + 2 * B - (a + B))) (sg dk (a + B) (a + 2 * B - (a + B))) := by
                rw [HP.out.sg (a + B) _ (by omega)]
                exact HBL.out.at_ (Nat.dvd_add (half_dvd HP.out.dvd) (Nat.dvd_refl _)) (by omega) (by omega)
              have HC := Lib.hid (HSY.out a (a + B) (a + 2 * B) dk wr (HS2.out.holds HH.out HZ.out HB.out) (HS2.out.lt HB.out) (by omega) (by omega) (by rw [HP.out.size]; exact hlt) HP.out.size (Srt.of so1.sorted) (Srt.of so2.sorted))
              unfold symCall at HC
              rw [show ((a + B : Nat) : Int) = (a : Int) + (B : Int) by omega, show ((a + 2 * B : Nat) : Int) = (a : Int) + 2 * (B : Int) by omega] at HC
              have SO12 := Lib.hid (And.intro so1 so2)
              clear so1 so2
              go_wp2_with fail
              refine HC.out.mono ?_
              rintro e w1 ⟨rfl, q, d1, os, hw1, hm1⟩
              have H1 := Lib.hid (HS2.out.next HB.out hw1 hm1.turns.size)
              have HP1 := Lib.hid (HP.out.step hm1.turns (by have := hm1.so (by omega) (by omega) SO12.out.1 SO12.out.2; rw [show a + 2 * B - a = 2 * B by omega] at this; exact this) hlt)
              clear hw1 hm1 HC
              go_wp2
              go_roundw
              case rel => exact ⟨a + 2 * B, d1, by go_num, by go_num, H1.out, HP1.out⟩
              case measure => simp [intOf]; omega
            · have l3 : ¬ ((a : Int) + 2 * (B : Int) ≤ (z : Int)) := by omega
              by_cases hm : a + B < z
              · have l4 : (a : Int) + (B : Int) < (z : Int) := by omega
                have so1 : SO (sg d a (a + B - a)) (sg dk a (a + B - a)) := by
                  rw [HP.out.sg a _ (Nat.le_refl _)]
                  exact HBL.out.at_ (half_dvd HP.out.dvd) (by omega) (by omega)
                have so2 : SO (sg d (a + B) (z - (a + B))) (sg dk (a + B) (z - (a + B))) := by
                  rw [HP.out.sg (a + B) _ (by omega)]
                  exact HBL.out.at_ (Nat.dvd_add (half_dvd HP.out.dvd) (Nat.dvd_refl _)) (by omega) (by omega)
                have HC := Lib.hid (HSY.out a (a + B) z dk wr (HS2.out.holds HH.out HZ.out HB.out) (HS2.out.lt HB.out) (by omega) hm (by rw [HP.out.size]; exact Nat.le_refl _) HP.out.size (Srt.of so1.sorted) (Srt.of so2.sorted))
                unfold symCall at HC
                rw [show ((a + B : Nat) : Int) = (a : Int) + (B : Int) by omega] at HC
                have SO12 := Lib.hid (And.intro so1 so2)
                clear so1 so2
                go_wp2_with fail
                refine HC.out.mono ?_
                rintro e w1 ⟨rfl, q, d1, os, hw1, hm1⟩
                have H1 := Lib.hid (HS2.out.next HB.out hw1 hm1.turns.size)
                have HB2 := Lib.hid (HP.out.fin hm1.turns (hm1.so (by omega) (by omega) SO12.out.1 SO12.out.2) (by omega))
                clear hw1 hm1 HC
                go_wp2
                go_roundw
                case rel => exact ⟨2 * B, d1, by go_num, by omega, by omega, H1.out, HB2.out⟩
                case measure => simp [intOf]; omega
              · have l4 : ¬ ((a : Int) + (B : Int) < (z : Int)) := by omega
                have HB2 : Hid (Blks (2 * B) z d dk) := HP.out.fin (Turns.refl _ _ _) (by
                  rcases Nat.lt_or_ge a z with e | e
                  · rw [HP.out.sg a _ (Nat.le_refl _)]
                    exact HBL.out.at_ (half_dvd HP.out.dvd) e (by omega)
                  · rw [show z - a = 0 by omega]
                    exact SortOf.nil) (by omega)
                go_wp2
                go_roundw
                case rel => exact ⟨2 * B, dk, by go_num, by omega, by omega, HS2.out, HB2.out⟩
                case measure => simp [intOf]; omega
        · have l2 : ¬ ((B : Int) < (z : Int)) := by omega
          go_wp2
          go_end0
          obtain ⟨h1, q, os, hq⟩ := HS.out
          have hso : SO (sg d 0 z) (sg dB 0 z) := by
            rcases Nat.eq_zero_or_pos z with e | e
            · rw [e]; exact SortOf.nil
            · exact HBL.out.at_ (Nat.dvd_zero _) e (by omega)
          first | exact ⟨rfl, q, dB, os, hq, h1, hso⟩ | exact ⟨rfl, q, dB, ⟨os, hq⟩, h1, hso⟩
set_option maxHeartbeats 1000000 in
set_option maxRecDepth 100000 in
theorem sortStable_any (blk off cap : Nat) (d : Array Ch) (w : World) (hH : HoldsK encC 3 w blk off d) (hblk : blk < w.heap.size) (hsz : d.size ≤ 1000000) :
    Calls Try.prog 72 #[.slice (some ⟨blk, off, none⟩) d.size cap, cmpV] w (StbPost w blk off d) := by
  have HC := Lib.hid (stable_any blk off cap d w hH hblk hsz)
  clear hH hblk
  unfold cmpV at *
  go_enter Try.func72, Try.ntmps72
  go_wp2_with fail
  refine HC.out.mono ?_
  rintro e w1 ⟨rfl, h⟩
  go_wp2
  go_end0
  exact ⟨rfl, h⟩
end Go.Proofs.Ytgkenknplepmeaa
namespace Go.Proofs.Ytgkenknplepmeaa
open Go.RowKit Go.Sort Go.Shelf

set_option maxHeartbeats 1000000 in
set_option maxRecDepth 100000 in
theorem insertion_none (A : Option Addr) (c : Nat) (w : World) : Calls Try.prog 110 #[.slice A 0 c, .int .i64 0, .int .i64 0, .func (.func 73) #[] #[]] w fun e w' => e = .returned (.tuple #[]) ∧ w' = w := by
  go_enter Try.func110, Try.ntmps110
  go_wp2
  refine wp_loop_rounds 1 ?_
  rw [rounds_succ]
  go_wp2
  go_end0
  exact ⟨rfl, rfl⟩
set_option maxHeartbeats 1000000 in
set_option maxRecDepth 100000 in
theorem stable_none (A : Option Addr) (c : Nat) (w : World) : Calls Try.prog 93 #[.slice A 0 c, .int .i64 0, .func (.func 73) #[] #[]] w fun e w' => e = .returned (.tuple #[]) ∧ w' = w := by
  go_enter Try.func93, Try.ntmps93
  go_wp2
  refine wp_loop_rounds 1 ?_
  rw [rounds_succ]
  go_wp2_with fail
  refine (insertion_none _ _ _).mono ?_
  rintro e w1 ⟨rfl, rfl⟩
  go_wp2
  refine wp_loop_rounds 1 ?_
  rw [rounds_succ]
  go_wp2
  go_end0
  exact ⟨rfl, rfl⟩
set_option maxHeartbeats 1000000 in
set_option maxRecDepth 100000 in
theorem sortStable_none (A : Option Addr) (c : Nat) (w : World) : Calls Try.prog 72 #[.slice A 0 c, .func (.func 73) #[] #[]] w fun e w' => e = .returned (.tuple #[]) ∧ w' = w := by
  go_enter Try.func72, Try.ntmps72
  go_wp2_with fail
  refine (stable_none _ _ _).mono ?_
  rintro e w1 ⟨rfl, rfl⟩
  go_wp2
  go_end0
  exact ⟨rfl, rfl⟩
theorem lget {l : List Ch} {i : Nat} (hi : i < l.length) : l[i]? = some l.toArray[i]! := by
  rw [List.getElem?_eq_getElem hi]
  simp [hi]
/-- A row of the call's own holds its changes. -/
theorem holds_of_own {w : World} {base g n cap : Nat} {e : TypeId} {l : List Ch} (h : w.ownsRow base e 3 (.slice (some ⟨g, 0, none⟩) n cap) n (ccells l)) : HoldsK encC 3 w g 0 l.toArray := by
  have hl : l.length = n := by have := h.1; rw [ccells_len] at this; omega
  have hfz : ∀ j, w.frozen? ⟨g, j, none⟩ = false := fun j => by
    rcases h.2 with ⟨e1, _⟩ | ⟨g', cap', cur, e1, hb, hh, _⟩
    · cases e1
    · injection e1 with e1 _ _
      injection e1 with e1
      injection e1 with e1
      subst e1
      simp [World.frozen?, hh]
  have hc := fun j u hu => h.cells (g := g) rfl j u hu
  simp only [Go.WideShapes.add_plain] at hc
  intro j hj
  rw [size_flatK] at hj
  refine ⟨?_, hfz _⟩
  rw [get_flatK _ _ _ _ hj]
  have hi : j / 3 < l.length := by simp at hj; omega
  obtain ⟨h0, h1, h2⟩ := ccells_at (lget hi)
  have e : j = j / 3 * 3 ∧ j % 3 = 0 ∨ j = j / 3 * 3 + 1 ∧ j % 3 = 1 ∨ j = j / 3 * 3 + 2 ∧ j % 3 = 2 := by omega
  rcases e with ⟨e, e'⟩ | ⟨e, e'⟩ | ⟨e, e'⟩
  · rw [e']; have := hc _ _ h0; rw [← e] at this; exact this
  · rw [e']; have := hc _ _ h1; rw [← e] at this; exact this
  · rw [e']; have := hc _ _ h2; rw [← e] at this; exact this
theorem SoW.below {w : World} {blk off q B : Nat} {d : Array Ch} {os : Array Obj} (hB : B ≤ blk) (hb : blk < w.heap.size) : Below B w (SoW w blk off q d os) := by
  refine ⟨rfl, rfl, rfl, size_sortWorldK_c encC 3 w blk off q d os, fun k hk => ?_⟩
  show ((putRowK encC 3 (Sort.ahead w q) blk off d).heap ++ os)[k]? = w.heap[k]?
  have hs : (putRowK encC 3 (Sort.ahead w q) blk off d).heap.size = w.heap.size := size_putRowK encC 3 (Sort.ahead w q) blk off d
  rw [Array.getElem?_append_left (by rw [hs]; omega)]
  show (w.heap.modify blk _)[k]? = w.heap[k]?
  rw [Array.getElem?_modify, if_neg (by omega)]
theorem sg_all (d : Array Ch) : sg d 0 d.size = d.toList := by
  apply List.ext_getElem?
  intro i
  rcases Nat.lt_or_ge i d.size with h | h
  · rw [sg, seg_get _ _ _ h, Nat.zero_add, Array.getElem?_toList, Array.getElem?_eq_getElem h, getElem!_pos d i h]
  · rw [List.getElem?_eq_none (by rw [sg_len]; exact h), List.getElem?_eq_none (by simpa using h)]
/-- One round of the last loop, in plain lists. -/
theorem lasts_drop {s : List Ch} {k : Nat} {c : Ch} (h : s[k]? = some c) : lasts (s.drop k) = if (s[k + 1]?.map (·.key) != some c.key) && !c.gone then c :: lasts (s.drop (k + 1)) else lasts (s.drop (k + 1)) := by
  have hk : k < s.length := (List.getElem?_eq_some_iff.1 h).1
  have e : s.drop k = c :: s.drop (k + 1) := by
    rw [List.drop_eq_getElem_cons hk]
    rw [List.getElem?_eq_getElem hk] at h
    injection h with h
    rw [h]
  rw [e, lasts, List.head?_drop]
end Go.Proofs.Ytgkenknplepmeaa
