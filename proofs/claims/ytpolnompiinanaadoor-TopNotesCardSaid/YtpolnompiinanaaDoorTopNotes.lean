/-
  THE WALK OF hammerpondtop.TopNotes: for all lines, notes and places the call returns true, and nothing that was there has turned.
-/
import Derived.Test.YtpolnompiinanaaDoorSameMk
import Derived.Test.YtpolnompiinanaaDoorNumber
namespace Go.Proofs.YtpolnompiinanaaDoor
open Go.RowKit

def notes0 : ByteArray := ⟨#[35, 32, 120, 10, 10, 98, 32, 58, 32, 97, 10, 9, 99, 111, 112, 121, 32, 97, 32, 98]⟩
set_option maxRecDepth 100000 in
theorem parse_notes : (parseR notes0).1 = 0 ∧ (parseR notes0).2.rules.length = 1 := by decide +kernel

theorem linesR_sane (l : List ByteArray) (h : ∀ x ∈ l, x.size ≤ 600) : ∀ (m : Mk) (k : Nat), Sane m k → Sane (linesR m l).2 (k + l.length) := by
  induction l with
  | nil => intro m k hs; exact hs
  | cons x l ih =>
    intro m k hs
    have h1 := hs.line x (h x (by simp))
    rw [linesR]
    split
    · have := ih (fun y hy => h y (by simp [hy])) _ _ h1
      simpa [Nat.add_assoc, Nat.add_comm 1] using this
    · exact h1.mono (by simp)
theorem parse_sane (s : ByteArray) : Sane (parseR s).2 700 := by
  unfold parseR
  split
  · exact sane0.mono (by omega)
  · rename_i h6
    split
    · exact sane0.mono (by omega)
    · split
      · have h1 := linesR_sane (lines s) (fun x hx => by have := lines_size hx; omega) mk0 0 sane0
        have h2 := lines_len s
        exact h1.mono (by omega)
      · exact sane0.mono (by omega)
def EndNl (u : Bs) : Prop := u = [] ∨ u.getLast? = some 10
theorem spn_append (u v : Bs) (h : EndNl u) (hu : u ≠ []) : spn (u ++ v) = (spn u).dropLast ++ spn v := by
  rcases h with h | h
  · exact absurd h hu
  · induction u with
    | nil => exact absurd rfl hu
    | cons b u ih =>
      cases u with
      | nil =>
        simp at h
        subst h
        simp [spn]
      | cons c u =>
        have h' : (c :: u).getLast? = some 10 := by simpa using h
        have ih' := ih (by simp) h'
        have hne := spn_ne (c :: u)
        have hlen : 2 ≤ (spn (c :: u)).length := by
          have key : ∀ (l : Bs), l.getLast? = some 10 → 2 ≤ (spn l).length := by
            intro l
            induction l with
            | nil => intro h; simp at h
            | cons b l ih2 =>
              intro h
              unfold spn
              split
              · have := spn_ne l
                have : 0 < (spn l).length := List.length_pos_iff.2 this
                simp; omega
              · rename_i hb
                cases l with
                | nil => simp at h; exact absurd h hb
                | cons d l =>
                  have h2 := ih2 (by simpa using h)
                  split
                  · rename_i e; rw [e] at h2; simp at h2
                  · rename_i x t e; rw [e] at h2; simpa using h2
          exact key _ h'
        by_cases hb : b = 10
        · subst hb
          rw [List.cons_append, spn_blank, spn_blank, ih', List.dropLast_cons_of_ne_nil hne]
          rfl
        · obtain ⟨x, t, e⟩ : ∃ x t, spn (c :: u) = x :: t := by
            cases hs : spn (c :: u) with
            | nil => exact absurd hs hne
            | cons x t => exact ⟨x, t, rfl⟩
          have ht : t ≠ [] := by intro h0; rw [e, h0] at hlen; simp at hlen
          have e2 : spn (c :: u ++ v) = x :: (t.dropLast ++ spn v) := by rw [ih', e, List.dropLast_cons_of_ne_nil ht]; rfl
          rw [List.cons_append, spn_other hb e2, spn_other hb e, List.dropLast_cons_of_ne_nil ht]
          rfl
def insB (note : ByteArray) : Bs := 35 :: note.data.toList ++ [10, 10]
theorem spn_ins (note : ByteArray) (v : Bs) (h : ∀ b ∈ note.data.toList, b ≠ 10) : spn (insB note ++ v) = (35 :: note.data.toList) :: [] :: spn v := by
  have key : ∀ (l v : Bs), (∀ b ∈ l, b ≠ 10) → spn (l ++ 10 :: v) = l :: spn v := by
    intro l v
    induction l with
    | nil => intro _; simp [spn]
    | cons b l ih =>
      intro h
      rw [List.cons_append]
      exact spn_other (h b (by simp)) (ih (fun x hx => h x (by simp [hx])))
  have e : insB note ++ v = (35 :: note.data.toList) ++ 10 :: (10 :: v) := by simp [insB]
  rw [e, key _ _ (by intro b hb; rcases List.mem_cons.1 hb with rfl | hb; decide; exact h b hb)]
  simp [spn]
theorem lines_ba (l : Bs) : lines (ba l) = (spn l).map ba := by unfold lines; rw [ba_data]; rfl
theorem noteB_35 (l : Bs) : noteB (ba (35 :: l)) = true := by unfold noteB; rw [ba_data]; rfl
theorem noteB_e : noteB (ba []) = true := rfl
/-- Comments change nothing. -/
theorem parse_ins (u v : Bs) (note : ByteArray) (hu : EndNl u) (hn : ∀ b ∈ note.data.toList, b ≠ 10) (hs : (u ++ insB note ++ v).length ≤ 600) : parseR (ba (u ++ insB note ++ v)) = parseR (ba (u ++ v)) := by
  have hl : linesR mk0 (lines (ba (u ++ insB note ++ v))) = linesR mk0 (lines (ba (u ++ v))) := by
    rw [lines_ba, lines_ba]
    by_cases h0 : u = []
    · subst h0
      rw [List.nil_append, List.nil_append, spn_ins note v hn]
      have := linesR_notes mk0 [] ((spn v).map ba) [ba (35 :: note.data.toList), ba []] (by intro x hx; simp at hx; rcases hx with rfl | rfl; exact noteB_35 _; exact noteB_e)
      simpa using this
    · rw [List.append_assoc, spn_append u _ hu h0, spn_append u _ hu h0, spn_ins note v hn]
      have := linesR_notes mk0 ((spn u).dropLast.map ba) ((spn v).map ba) [ba (35 :: note.data.toList), ba []] (by intro x hx; simp at hx; rcases hx with rfl | rfl; exact noteB_35 _; exact noteB_e)
      simpa using this
  unfold parseR
  have e1 : ¬ 600 < (ba (u ++ insB note ++ v)).size := by rw [ba_size]; omega
  have e2 : ¬ 600 < (ba (u ++ v)).size := by rw [ba_size]; simp at hs ⊢; omega
  rw [if_neg e1, if_neg e2, hl]
/-- Where the loop stands: the two texts, i lines on. -/
structure NtRel (L : List ByteArray) (note : ByteArray) (K : Int) (n : Nat) (a b i : Value) : Prop where
  ex : ∃ (k : Nat) (x y : Bs), k ≤ n + 1 ∧ i = .int .i64 k ∧ a = .string (ba x) ∧ b = .string (ba y) ∧ EndNl x ∧ x.length ≤ 61 * k ∧ y.length ≤ 61 * k + 40 ∧ (y = x ∨ (K < k ∧ ∃ u v, x = u ++ v ∧ y = u ++ insB note ++ v ∧ EndNl u))
def NnRel (s : ByteArray) (i : Value) : Prop := ∃ k : Nat, k ≤ s.size ∧ i = .int .i64 k ∧ ∀ j (hj : j < s.size), j < k → s[j] ≠ 10
theorem endNl_snoc (x z : Bs) : EndNl (x ++ (z ++ [10])) := .inr (by simp [← List.append_assoc])

set_option maxHeartbeats 4000000 in
set_option maxRecDepth 100000 in
theorem topNotes_any (A : Option Addr) (n c : Nat) (L : List ByteArray) (note : ByteArray) (at_ : Int) (w : World) (h : RdS w w.heap.size A n c L) (hz : note.size ≤ 9223372036854775807) (hm : MaxOk w) :
    Calls Tryd.prog 8 #[.slice A n c, .string note, .int .i64 at_] w fun e w' => e = .returned (.bool true) ∧ Below w.heap.size w w' := by
  have hcm := h.2.2.1
  have hnc := h.2.1
  unfold maxLen at hcm
  have HL := Lib.hid h.1
  have HR := Lib.hid h
  have HM := Lib.hid hm
  clear h hm
  go_enter Tryd.func8, Tryd.ntmps8
  go_wp2_with fail
  refine (parse_any notes0 w HM.out (by decide)).mono ?_
  rintro e w1 ⟨vv, vr, vp, R, rfl, hmo, hb1⟩
  rw [show errV ((parseR notes0).1 : Int) = .nilIface by rw [parse_notes.1]; rfl]
  obtain ⟨Av, cv, rfl⟩ := own_slice hmo.vars
  obtain ⟨Ar, cr, rfl⟩ := own_slice hmo.rules
  obtain ⟨Ap, cp, rfl⟩ := own_slice hmo.phony
  have hR1 : R.length = 1 := by rw [hmo.len]; exact parse_notes.2
  rw [hR1]
  generalize (parseR notes0).2.vars.length = nv at *
  generalize (parseR notes0).2.phony.length = np at *
  have HR1 := Lib.hid (HR.out.belowS hb1)
  have HM1 := Lib.hid (HM.out.below hb1)
  have HB1 := Lib.hid hb1
  clear hmo hb1 hR1 HR HM
  have hba : Below w1.heap.size w1 (w1.alloc (.cells #[.slice Av nv cv, .slice Ar 1 cr, .slice Ap np cp] 61)) := (Below.refl _ _).alloc (Nat.le_refl _) _
  have k2 : (w1.alloc (.cells #[.slice Av nv cv, .slice Ar 1 cr, .slice Ap np cp] 61)).heap[w1.heap.size]? = some (.cells #[.slice Av nv cv, .slice Ar 1 cr, .slice Ap np cp] 61 (0, 0)) := World.alloc_heap_new _ _
  have q1 : (w1.alloc (.cells #[.slice Av nv cv, .slice Ar 1 cr, .slice Ap np cp] 61)).cell? ⟨w1.heap.size, 1, none⟩ = some (.slice Ar 1 cr) := by rw [World.cell?_alloc_at _ _ _ _ rfl]; rfl
  have hs2 : (w1.alloc (.cells #[.slice Av nv cv, .slice Ar 1 cr, .slice Ap np cp] 61)).heap.size = w1.heap.size + 1 := by simp
  have HR2 := Lib.hid (HR1.out.belowS hba)
  have HM2 := Lib.hid (HM1.out.below hba)
  have HB2 := Lib.hid (HB1.out.trans (hba.mono HB1.out.size))
  have HK2 := Lib.hid k2
  have HS2 := Lib.hid hs2
  have hw1 : w.heap.size ≤ w1.heap.size := HB1.out.size
  clear hba k2 hs2 HR1 HM1 HB1
  by_cases g1 : 30 < n
  · have t : (30 : Int) < (n : Int) := by omega
    go_wp2
    go_ret
    exact ⟨rfl, HB2.out⟩
  have d1 : decide ((30 : Int) < (n : Int)) = false := decide_eq_false (by omega)
  by_cases g2 : 30 < note.size
  · have t : (30 : Int) < (note.size : Int) := by omega
    go_wp2
    go_ret
    exact ⟨rfl, HB2.out⟩
  have d2 : decide ((30 : Int) < (note.size : Int)) = false := decide_eq_false (by omega)
  go_wp2_with fail
  generalize w1.alloc (.cells #[.slice Av nv cv, .slice Ar 1 cr, .slice Ap np cp] 61) = w2 at *
  clear q1
  go_loop [9] (fun i => NnRel note i) (fun i => note.size - (intOf i).toNat)
  case atStart => exact ⟨0, Nat.zero_le _, rfl, fun j hj h => by omega⟩
  case round =>
    obtain ⟨k, hk, rfl, hall⟩ := hrel
    have HA := Lib.hid hall
    clear hall
    by_cases hlt : k < note.size
    · have hkz : (k : Int) < (note.size : Int) := by omega
      cases hq : ((note[k].toNat : Int) == 10) with
      | true =>
        go_wp2
        go_ret
        exact ⟨rfl, HB2.out⟩
      | false =>
        have HC := Lib.hid (byteN_ne hq)
        go_wp2
        go_round
        case rel =>
          refine ⟨k + 1, by omega, by go_num, fun j hj h => ?_⟩
          rcases Nat.lt_or_ge j k with h' | h'
          · exact HA.out j hj h'
          · obtain rfl : j = k := by omega
            exact HC.out
        case measure => simp [intOf]; omega
    · obtain rfl : k = note.size := by omega
      have HNN := Lib.hid (show ∀ b ∈ note.data.toList, b ≠ 10 from fun b hb => by
        obtain ⟨j, hj, e⟩ := List.mem_iff_getElem.1 hb
        have hj' : j < note.size := by simpa using hj
        rw [← e]
        exact HA.out j hj' hj')
      clear HA
      have hne : ¬ ((n : Int) + 1 = 0) := by omega
      go_wp2
      generalize (bits BinOp.and IntKind.i64 at_ 1023).tmod ((n : Int) + 1) = K
      go_loop [11, 12, 13] (fun a b i => NtRel L note K n a b i) (fun _ _ i => n + 1 - (intOf i).toNat)
      case atStart => exact ⟨0, [], [], Nat.zero_le _, rfl, rfl, rfl, .inl rfl, by simp, by simp, .inl rfl⟩
      case round =>
        obtain ⟨k, x, y, hk2, rfl, rfl, rfl, hex, hxl, hyl, hrel2⟩ := hrel.ex
        clear hrel
        have HEX := Lib.hid hex
        have HRE := Lib.hid hrel2
        clear hex hrel2
        have zx : (ba x).size ≤ 2000 := by rw [ba_size]; omega
        have zy : (ba y).size ≤ 2000 := by rw [ba_size]; omega
        have Z1 : (⟨#[35]⟩ : ByteArray).size = 1 := rfl
        have Z2 : (⟨#[10, 10]⟩ : ByteArray).size = 2 := rfl
        have Z3 : (⟨#[10]⟩ : ByteArray).size = 1 := rfl
        by_cases hle : k ≤ n
        · have hlez : (k : Int) ≤ (n : Int) := by omega
          -- the inserted note
          obtain ⟨y2, hy2l, hins⟩ : ∃ y2 : Bs, y2.length ≤ 61 * k + 40 ∧ (y2 = x ∨ (K < (k : Int) + 1 ∧ ∃ u v, x = u ++ v ∧ y2 = u ++ insB note ++ v ∧ EndNl u)) ∧ (((k : Int) == K) = true → ba y2 = ba y ++ ⟨#[35]⟩ ++ note ++ ⟨#[10, 10]⟩) ∧ (((k : Int) == K) = false → y2 = y) := by
            cases hkK : ((k : Int) == K) with
            | true =>
              have e : (k : Int) = K := by simpa using hkK
              have hyx : y = x := by
                rcases HRE.out with h | ⟨h, _⟩
                · exact h
                · omega
              refine ⟨y ++ insB note, ?_, .inr ⟨by omega, x, [], by simp, by rw [hyx]; simp, HEX.out⟩, fun _ => ?_, (fun h => by cases h)⟩
              · have h1 : note.data.toList.length = note.size := by simp
                rw [hyx]
                simp [insB]
                omega
              · rw [ba_append, ← ba_of (⟨#[35]⟩ : ByteArray), ← ba_of (⟨#[10, 10]⟩ : ByteArray)]
                conv => rhs; rw [← ba_of note, ← ba_append, ← ba_append, ← ba_append]
                rw [← ba_append]
                simp [insB]
            | false =>
              refine ⟨y, hyl, ?_, (fun h => by cases h), fun _ => rfl⟩
              rcases HRE.out with h | ⟨h, hh⟩
              · exact .inl h
              · exact .inr ⟨by omega, hh⟩
          obtain ⟨hrl, hyes, hno⟩ := hins
          have HRL := Lib.hid hrl
          have zy2 : (ba y2).size ≤ 2000 := by rw [ba_size]; omega
          clear hrl
          by_cases hlt2 : k < n
          · obtain ⟨f, hf⟩ : ∃ f, L[k]? = some f := ⟨_, List.getElem?_eq_getElem (by rw [HL.out]; exact hlt2)⟩
            obtain ⟨b', off, rfl, _, hcf⟩ := HR2.out.at_ hf
            have hkz2 : (k : Int) < (n : Int) := by omega
            clear hf
            by_cases hf60 : 60 < f.size
            · have t60 : (60 : Int) < (f.size : Int) := by omega
              cases hkK : ((k : Int) == K) with
              | true =>
                clear hyes hno
                go_wp2
                go_ret
                exact ⟨rfl, HB2.out⟩
              | false =>
                clear hyes hno
                go_wp2
                go_ret
                exact ⟨rfl, HB2.out⟩
            · have t60 : decide ((60 : Int) < (f.size : Int)) = false := decide_eq_false (by omega)
              have hax : ba (x ++ (f.data.toList ++ [10])) = ba x ++ f ++ ⟨#[10]⟩ := by rw [ba_append, ba_append, ba_of, ← ByteArray.append_assoc]; rfl
              have hay : ba (y2 ++ (f.data.toList ++ [10])) = ba y2 ++ f ++ ⟨#[10]⟩ := by rw [ba_append, ba_append, ba_of, ← ByteArray.append_assoc]; rfl
              have hfl : f.data.toList.length = f.size := by simp
              have HNX := Lib.hid (show NtRel L note K n (.string (ba x ++ f ++ ⟨#[10]⟩)) (.string (ba y2 ++ f ++ ⟨#[10]⟩)) (.int .i64 ((k : Int) + 1)) from ⟨k + 1, x ++ (f.data.toList ++ [10]), y2 ++ (f.data.toList ++ [10]), by omega, by simp, by rw [hax], by rw [hay], endNl_snoc _ _, by simp; omega, by simp; omega, by
                rcases HRL.out with h | ⟨h, u, v, e1, e2, e3⟩
                · exact .inl (by rw [h])
                · exact .inr ⟨by push_cast; omega, u, v ++ (f.data.toList ++ [10]), by rw [e1, List.append_assoc], by rw [e2]; simp, e3⟩⟩)
              clear hax hay hfl
              cases hkK : ((k : Int) == K) with
              | true =>
                have hy := hyes hkK
                rw [hy] at HNX zy2
                clear hyes hno hy
                have n1 : (ba y).size + 1 ≤ 3000 := by omega
                have n2 : (ba y ++ (⟨#[35]⟩ : ByteArray)).size + note.size ≤ 3000 := by rw [ByteArray.size_append]; omega
                have n3 : (ba y ++ (⟨#[35]⟩ : ByteArray) ++ note).size + 2 ≤ 3000 := by rw [ByteArray.size_append, ByteArray.size_append]; omega
                go_wp2
                go_round
                case rel => exact HNX.out
                case measure => simp [intOf]; omega
              | false =>
                have hy := hno hkK
                rw [hy] at HNX zy2
                clear hyes hno hy
                go_wp2
                go_round
                case rel => exact HNX.out
                case measure => simp [intOf]; omega
          · obtain rfl : k = n := by omega
            have HNX := Lib.hid (show NtRel L note K k (.string (ba x)) (.string (ba y2)) (.int .i64 ((k : Int) + 1)) from ⟨k + 1, x, y2, by omega, by simp, rfl, rfl, HEX.out, by omega, by omega, by
              rcases HRL.out with h | ⟨h, hh⟩
              · exact .inl h
              · exact .inr ⟨by push_cast; omega, hh⟩⟩)
            cases hkK : ((k : Int) == K) with
            | true =>
              have hy := hyes hkK
              rw [hy] at HNX zy2
              clear hyes hno hy
              have n1 : (ba y).size + 1 ≤ 3000 := by omega
              have n2 : (ba y ++ (⟨#[35]⟩ : ByteArray)).size + note.size ≤ 3000 := by rw [ByteArray.size_append]; omega
              have n3 : (ba y ++ (⟨#[35]⟩ : ByteArray) ++ note).size + 2 ≤ 3000 := by rw [ByteArray.size_append, ByteArray.size_append]; omega
              go_wp2
              go_round
              case rel => exact HNX.out
              case measure => simp [intOf]
            | false =>
              have hy := hno hkK
              rw [hy] at HNX zy2
              clear hyes hno hy
              go_wp2
              go_round
              case rel => exact HNX.out
              case measure => simp [intOf]
        · have hlez : decide ((k : Int) ≤ (n : Int)) = false := decide_eq_false (by omega)
          have hfin : y.length ≤ 600 → parseR (ba y) = parseR (ba x) := by
            intro h6
            rcases HRE.out with h | ⟨_, u, v, e1, e2, e3⟩
            · rw [h]
            · rw [e1, e2]
              exact parse_ins u v note e3 HNN.out (by rw [← e2]; exact h6)
          have HFI := Lib.hid hfin
          clear hfin
          by_cases h6 : 600 < y.length
          · have t6 : (600 : Int) < ((ba y).size : Int) := by rw [ba_size]; omega
            go_wp2
            go_ret
            exact ⟨rfl, HB2.out⟩
          · have t6 : decide ((600 : Int) < ((ba y).size : Int)) = false := decide_eq_false (by rw [ba_size]; omega)
            have HP := Lib.hid (HFI.out (by omega))
            clear HFI
            go_wp2_with fail
            refine (parse_any (ba x) w2 HM2.out (by omega)).mono ?_
            unfold PaPost
            rw [← HP.out]
            obtain ⟨r, hr⟩ : ∃ r, r = parseR (ba y) := ⟨_, rfl⟩
            rw [← hr]
            have HRR := Lib.hid hr
            clear hr
            rintro e w3 ⟨vv, vr, vp, R, rfl, hmo, hb3⟩
            obtain ⟨Av1, cv1, rfl⟩ := own_slice hmo.vars
            obtain ⟨Ar1, cr1, rfl⟩ := own_slice hmo.rules
            obtain ⟨Ap1, cp1, rfl⟩ := own_slice hmo.phony
            have k3 : w3.heap[w1.heap.size]? = some (.cells #[.slice Av nv cv, .slice Ar 1 cr, .slice Ap np cp] 61 (0, 0)) := (hb3.block _ (by rw [HS2.out]; omega)).trans HK2.out
            have c0 : w3.cell? ⟨w1.heap.size, 0, none⟩ = some (.slice Av nv cv) := by simp [World.cell?, k3]
            have c1 : w3.cell? ⟨w1.heap.size, 1, none⟩ = some (.slice Ar 1 cr) := by simp [World.cell?, k3]
            have c2 : w3.cell? ⟨w1.heap.size, 2, none⟩ = some (.slice Ap np cp) := by simp [World.cell?, k3]
            have f0 : w3.frozen? ⟨w1.heap.size, 0, none⟩ = false := by simp [World.frozen?, k3]
            have f1 : w3.frozen? ⟨w1.heap.size, 1, none⟩ = false := by simp [World.frozen?, k3]
            have f2 : w3.frozen? ⟨w1.heap.size, 2, none⟩ = false := by simp [World.frozen?, k3]
            generalize hn1 : r.2.vars.length = n1 at *
            generalize hn2 : R.length = n2 at *
            generalize hn3 : r.2.phony.length = n3 at *
            have HN1 := Lib.hid hn1
            have HN2 := Lib.hid hn2
            have HN3 := Lib.hid hn3
            clear hn1 hn2 hn3
            obtain ⟨hs4, hg4⟩ := set3 k3 (.slice Av1 n1 cv1) (.slice Ar1 n2 cr1) (.slice Ap1 n3 cp1)
            have HMO := Lib.hid (hmo.kept hg4 (fun k hk => by injection hk with hk; rw [HS2.out]; omega))
            have HB4 := Lib.hid ((HB2.out.trans (hb3.mono HB2.out.size)).grown hg4 (Nat.le_trans HB2.out.size hb3.size) (fun k hk => by injection hk with hk; omega))
            have hM4 : MaxOk (((w3.setCell ⟨w1.heap.size, 0, none⟩ (.slice Av1 n1 cv1)).setCell ⟨w1.heap.size, 1, none⟩ (.slice Ar1 n2 cr1)).setCell ⟨w1.heap.size, 2, none⟩ (.slice Ap1 n3 cp1)) := by
              obtain ⟨mm, hmm⟩ := HM2.out.below hb3
              refine ⟨mm, (World.cell?_of_block (w := w3) (hg4.block _ (World.block_lt_of_cell? _ _ hmm) (fun e => ?_))).trans hmm⟩
              injection e with e
              have hmm2 : w3.cell? ⟨1, 0, none⟩ = some (.int .i64 mm) := hmm
              rw [show 1 = w1.heap.size from e, c0] at hmm2
              cases hmm2
            have HM4 := Lib.hid hM4
            have HS4 := Lib.hid hs4
            clear hmo hb3 k3 hs4 hg4 hM4
            go_wp2_with fail
            generalize ((w3.setCell ⟨w1.heap.size, 0, none⟩ (.slice Av1 n1 cv1)).setCell ⟨w1.heap.size, 1, none⟩ (.slice Ar1 n2 cr1)).setCell ⟨w1.heap.size, 2, none⟩ (.slice Ap1 n3 cp1) = w4 at *
            refine (parse_any (ba y) w4 HM4.out (by omega)).mono ?_
            unfold PaPost
            rw [← HRR.out]
            rintro e w5 ⟨vv, vr, vp, R2, rfl, hmo2, hb5⟩
            obtain ⟨Av2, cv2, rfl⟩ := own_slice hmo2.vars
            obtain ⟨Ar2, cr2, rfl⟩ := own_slice hmo2.rules
            obtain ⟨Ap2, cp2, rfl⟩ := own_slice hmo2.phony
            generalize hn5 : r.2.vars.length = n5 at *
            generalize hn6 : R2.length = n6 at *
            generalize hn7 : r.2.phony.length = n7 at *
            have HN5 := Lib.hid hn5
            have HN6 := Lib.hid hn6
            have HN7 := Lib.hid hn7
            clear hn5 hn6 hn7
            have hl4 : w1.heap.size < w4.heap.size := (Array.getElem?_eq_some_iff.1 HS4.out).1
            have k5 := (hb5.block _ hl4).trans HS4.out
            have hba : Below w5.heap.size w5 (w5.alloc (.cells #[.slice Av2 n5 cv2, .slice Ar2 n6 cr2, .slice Ap2 n7 cp2] 61)) := (Below.refl _ _).alloc (Nat.le_refl _) _
            have hl5 : w1.heap.size < w5.heap.size := by have := hb5.size; omega
            have k6 := (hba.block _ hl5).trans k5
            have o0 : (w5.alloc (.cells #[.slice Av2 n5 cv2, .slice Ar2 n6 cr2, .slice Ap2 n7 cp2] 61)).cell? ⟨w1.heap.size, 0, none⟩ = some (.slice Av1 n1 cv1) := by simp only [World.cell?]; rw [k6]; rfl
            have o1 : (w5.alloc (.cells #[.slice Av2 n5 cv2, .slice Ar2 n6 cr2, .slice Ap2 n7 cp2] 61)).cell? ⟨w1.heap.size, 1, none⟩ = some (.slice Ar1 n2 cr1) := by simp only [World.cell?]; rw [k6]; rfl
            have o2 : (w5.alloc (.cells #[.slice Av2 n5 cv2, .slice Ar2 n6 cr2, .slice Ap2 n7 cp2] 61)).cell? ⟨w1.heap.size, 2, none⟩ = some (.slice Ap1 n3 cp1) := by simp only [World.cell?]; rw [k6]; rfl
            have p0 : (w5.alloc (.cells #[.slice Av2 n5 cv2, .slice Ar2 n6 cr2, .slice Ap2 n7 cp2] 61)).cell? ⟨w5.heap.size, 0, none⟩ = some (.slice Av2 n5 cv2) := by rw [World.cell?_alloc_at _ _ _ _ rfl]; rfl
            have p1 : (w5.alloc (.cells #[.slice Av2 n5 cv2, .slice Ar2 n6 cr2, .slice Ap2 n7 cp2] 61)).cell? ⟨w5.heap.size, 1, none⟩ = some (.slice Ar2 n6 cr2) := by rw [World.cell?_alloc_at _ _ _ _ rfl]; rfl
            have p2 : (w5.alloc (.cells #[.slice Av2 n5 cv2, .slice Ar2 n6 cr2, .slice Ap2 n7 cp2] 61)).cell? ⟨w5.heap.size, 2, none⟩ = some (.slice Ap2 n7 cp2) := by rw [World.cell?_alloc_at _ _ _ _ rfl]; rfl
            have HQ1 := Lib.hid (((HMO.out.below hb5).below hba).rd)
            have HQ2 := Lib.hid ((hmo2.below hba).rd)
            have HB6 := Lib.hid ((HB4.out.trans (hb5.mono HB4.out.size)).trans (hba.mono (Nat.le_trans HB4.out.size hb5.size)))
            clear hmo2 hb5 hba k5 k6 HMO HB4 HM4 HS4 hl4
            go_wp2_with fail
            generalize w5.alloc (.cells #[.slice Av2 n5 cv2, .slice Ar2 n6 cr2, .slice Ap2 n7 cp2] 61) = w6 at *
            refine (numb_any (r.1 : Int) w6).mono ?_
            rintro e w6' ⟨rfl, rfl⟩
            go_wp2_with fail
            refine (numb_any (r.1 : Int) w6).mono ?_
            rintro e w6' ⟨rfl, rfl⟩
            go_wp2_with fail
            refine (sameMake_any r.2 _ _ _ _ _ _ R R2 w6 HQ1.out HQ2.out ?_ ?_).mono ?_
            · have := (parse_sane (ba y)).vars; rw [HRR.out]; omega
            · have := (parse_sane (ba y)).rules; rw [HRR.out]; omega
            rintro e w7 ⟨rfl, hb7⟩
            have HB7 := Lib.hid (HB6.out.trans (hb7.mono HB6.out.size))
            clear hb7
            go_wp2
            go_ret
            exact ⟨rfl, HB7.out⟩
end Go.Proofs.YtpolnompiinanaaDoor
