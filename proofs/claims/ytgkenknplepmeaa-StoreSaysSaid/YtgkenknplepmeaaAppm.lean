/-
  WALK: row.Apply whole.
-/
import Derived.Test.YtgkenknplepmeaaAppl
import Derived.Test.YtgkenknplepmeaaRwC
namespace Go.Proofs.Ytgkenknplepmeaa
open Go.RowKit Go.Sort Go.Shelf

def ApPost (w : World) (l : List Ch) (e : Ending) (w' : World) : Prop := ∃ v out, e = .returned v ∧ w'.ownsRow w.heap.size tCh 3 v out.length (ccells out) ∧ ApplyOf l out ∧ Below w.heap.size w w'
def ApRel (w2 : World) (s : List Ch) (vo vi : Value) (wr : World) : Prop := ∃ (k : Nat) (out : List Ch), k ≤ s.length ∧ vi = .int .i64 k ∧ wr.ownsRow w2.heap.size tCh 3 vo out.length (ccells out) ∧ Below w2.heap.size w2 wr ∧ out ++ lasts (s.drop k) = lasts s ∧ out.length ≤ k
set_option maxHeartbeats 2000000 in
set_option maxRecDepth 100000 in
theorem apply_any (A1 A2 : Option Addr) (n1 c1 n2 c2 : Nat) (l1 l2 : List Ch) (w : World) (h1 : RdC w w.heap.size A1 n1 c1 l1) (h2 : RdC w w.heap.size A2 n2 c2 l2) (hn : n1 + n2 ≤ 100000) :
    Calls Try.prog 38 #[.slice A1 n1 c1, .slice A2 n2 c2] w (ApPost w (l1 ++ l2)) := by
  obtain ⟨ti, hti, htz, hts, htb⟩ := change_parts
  have HI := Lib.hid hti
  have HZ := Lib.hid htz
  have HS := Lib.hid hts
  have HB := Lib.hid htb
  clear hti htz hts htb
  obtain ⟨w0, hw0⟩ : ∃ w0, w0 = w.alloc (.cells #[.slice A1 n1 c1, .slice A2 n2 c2] 36) := ⟨_, rfl⟩
  have hz0 : w0.heap.size = w.heap.size + 1 := by rw [hw0]; simp
  have hb0 : Below w.heap.size w w0 := by rw [hw0]; exact (Below.refl _ _).alloc (Nat.le_refl _) _
  have hcat := concatC_any w.heap.size 0 2 [(A1, n1, c1, l1), (A2, n2, c2, l2)] w0 (by omega) (by
    intro j s hs
    have hr1 : RdC w0 w0.heap.size A1 n1 c1 l1 := (h1.below hb0).more (by omega)
    have hr2 : RdC w0 w0.heap.size A2 n2 c2 l2 := (h2.below hb0).more (by omega)
    have hbk := Blk.new w 36 #[.slice A1 n1 c1, .slice A2 n2 c2]
    rw [← hw0] at hbk
    match j, hs with
    | 0, hs => simp at hs; subst hs; exact ⟨hbk.cell 0, hr1⟩
    | 1, hs => simp at hs; subst hs; exact ⟨hbk.cell 1, hr2⟩
    | j + 2, hs => simp at hs) (by simp) (by simp [allC, h1.1, h2.1]; omega)
  have el : allC [(A1, n1, c1, l1), (A2, n2, c2, l2)] = l1 ++ l2 := by simp [allC]
  rw [el] at hcat
  have hlen : (l1 ++ l2).length = n1 + n2 := by rw [List.length_append, h1.1, h2.1]
  clear h1 h2 el
  generalize l1 ++ l2 = l at *
  have HCAT := Lib.hid hcat
  have HB0 := Lib.hid hb0
  have HZ0 := Lib.hid hz0
  have HLEN := Lib.hid hlen
  have HW0 := Lib.hid hw0.symm
  clear hcat hb0 hz0 hw0 hlen
  go_enter Try.func38, Try.ntmps38
  go_wp2_with fail
  rw [HW0.out]
  refine HCAT.out.mono ?_
  rintro e w1 ⟨v, rfl, hown, hb1⟩
  have hbb : Below w.heap.size w w1 := HB0.out.trans (hb1.mono (by rw [HZ0.out]; omega))
  have HBB := Lib.hid hbb
  have hbase : w0.heap.size ≤ w1.heap.size := hb1.size
  clear HCAT hb1 hbb
  rcases Nat.eq_zero_or_pos l.length with h0 | h0
  · obtain rfl : l = [] := List.eq_nil_of_length_eq_zero h0
    obtain ⟨A, c, rfl, _⟩ := RdC.of_own hown
    clear hown hbase
    simp only [List.length_nil]
    go_wp2_with fail
    refine (sortStable_none A c w1).mono ?_
    rintro e w2 ⟨rfl, rfl⟩
    go_wp2
    refine wp_loop_rounds 1 ?_
    rw [rounds_succ]
    go_wp2
    go_ret
    exact ⟨_, [], rfl, World.ownsRow_nil _ _ _ _, ApplyOf.nil, HBB.out⟩
  · obtain ⟨g, cap, cur, rfl, hgb, hgh, _⟩ : ∃ g cap cur, v = .slice (some ⟨g, 0, none⟩) l.length cap ∧ w0.heap.size ≤ g ∧ w1.heap[g]? = some (.cells cur tCh (0, 0)) ∧ True := by
      rcases hown.2 with ⟨_, e⟩ | ⟨g, cap, cur, e1, e2, e3, _⟩
      · omega
      · exact ⟨g, cap, cur, e1, e2, e3, trivial⟩
    have hg : g < w1.heap.size := (Array.getElem?_eq_some_iff.1 hgh).1
    have hH := holds_of_own hown
    have HSORT := Lib.hid (sortStable_any g 0 cap l.toArray w1 hH hg (by simp; rw [HLEN.out]; omega))
    have HH := Lib.hid hH
    have HG := Lib.hid (And.intro hgb hg)
    clear hown hgh hH hbase
    simp only [List.size_toArray] at HSORT
    unfold cmpV at HSORT
    have hln : l.length ≤ 100000 := by rw [HLEN.out]; exact hn
    go_wp2_with fail
    refine HSORT.out.mono ?_
    rintro e w2 ⟨rfl, q, d', os, hw2, hdz, hso⟩
    simp only [List.size_toArray] at hdz hso
    have hso2 : SO l d'.toList := by
      have e1 := sg_all l.toArray
      have e2 := sg_all d'
      rw [List.size_toArray] at e1
      rw [hdz] at e2
      rw [e1, e2] at hso
      simpa using hso
    have hH2 : HoldsK encC 3 w2 g 0 d' := by rw [hw2]; exact SoW.holds HH.out HG.out.2 (by simpa using hdz)
    have hg2 : g < w2.heap.size := by rw [hw2]; exact SoW.lt HG.out.2
    have hB2 : Below w.heap.size w w2 := HBB.out.trans (by rw [hw2]; exact SoW.below (by have := HG.out.1; rw [HZ0.out] at this; omega) HG.out.2)
    have HSO := Lib.hid hso2
    have HH2 := Lib.hid hH2
    have HG2 := Lib.hid hg2
    have HB2 := Lib.hid hB2
    have HDZ := Lib.hid hdz
    clear hw2 hso hso2 hH2 hg2 hB2 hdz HSORT HH
    generalize hll : l.length = n at *
    have HN := Lib.hid hll
    clear hll
    go_wp2
    go_loopw [6, 18] (fun vo vi wr => ApRel w2 d'.toList vo vi wr) (fun _ vi _ => n - (intOf vi).toNat)
    case atStart => exact ⟨0, [], Nat.zero_le _, rfl, World.ownsRow_nil _ _ _ _, Below.refl _ _, by simp, Nat.le_refl _⟩
    case round =>
      obtain ⟨k, out, hk, rfl, ho, hb, heq, hol⟩ := hrel
      have hkn : k ≤ n := by rw [Array.length_toList, HDZ.out] at hk; exact hk
      have HO := Lib.hid ho
      have HBR := Lib.hid hb
      have HEQ := Lib.hid heq
      clear hk ho hb heq
      by_cases hlt : k < n
      · have hkd : k < d'.size := by rw [HDZ.out]; exact hlt
        obtain ⟨i0, i1, i2, _, _, _⟩ := Cel.of HH2.out hkd
        have hcell := fun (o : Nat) => HBR.out.cell (p := ⟨g, o, none⟩) HG2.out
        rw [← hcell] at i0 i1 i2
        rw [Nat.zero_add] at i0 i1 i2
        obtain ⟨x, hx⟩ : ∃ x, x = d'[k]! := ⟨_, rfl⟩
        rw [← hx] at i0 i1 i2
        have HX := Lib.hid hx
        clear hx hcell
        obtain ⟨xk, xv, xg⟩ := x
        cases xg with
        | true =>
          have HSC := Lib.hid (StC.new wr xk xv true tCh)
          have hown3 : ∀ (q : Nat) (o : Obj), (((wr.alloc (.cells #[.string xk, .string xv, .bool true] tCh)).drewN q).alloc o).ownsRow w2.heap.size tCh 3 u6 out.length (ccells out) := fun q o =>
            ownsRow_block HO.out (fun g' hg' => by
              have := (HO.out.lt g' hg').2
              exact (Below.heap_alloc _ _ _ (by show g' < (wr.alloc _).heap.size; simp; omega)).trans (Below.heap_alloc wr _ _ this))
          have hown4 : ∀ (q : Nat), ((wr.alloc (.cells #[.string xk, .string xv, .bool true] tCh)).drewN q).ownsRow w2.heap.size tCh 3 u6 out.length (ccells out) := fun q =>
            ownsRow_block HO.out (fun g' hg' => Below.heap_alloc wr _ _ (HO.out.lt g' hg').2)
          have hbel4 : ∀ (q : Nat), Below w2.heap.size w2 ((wr.alloc (.cells #[.string xk, .string xv, .bool true] tCh)).drewN q) := fun q => by
            have h := HBR.out.alloc HBR.out.size (.cells #[.string xk, .string xv, .bool true] tCh)
            exact ⟨h.1, h.2, h.3, h.4, h.5⟩
          have hbel3 : ∀ (q : Nat) (o : Obj), Below w2.heap.size w2 (((wr.alloc (.cells #[.string xk, .string xv, .bool true] tCh)).drewN q).alloc o) := fun q o => (hbel4 q).alloc (hbel4 q).size o
          have hsx : d'.toList[k]? = some ⟨xk, xv, true⟩ := by rw [HX.out, Array.getElem?_toList, Array.getElem?_eq_getElem hkd, getElem!_pos d' k hkd]
          have hld := lasts_drop hsx
          have hxn : ∀ (q : Nat), RdX (((wr.alloc (.cells #[.string xk, .string xv, .bool true] tCh)).drewN q).alloc (.cells #[.string xk, .string xv, .bool true] tCh)) 3 (some ⟨wr.heap.size + 1, 0, none⟩) 1 [.string xk, .string xv, .bool true] := fun q => by
            have h := RdX.new ((wr.alloc (.cells #[.string xk, .string xv, .bool true] tCh)).drewN q) 3 #[.string xk, .string xv, .bool true] tCh rfl (encC_one ⟨xk, xv, true⟩)
            rw [show ((wr.alloc (.cells #[.string xk, .string xv, .bool true] tCh)).drewN q).heap.size = wr.heap.size + 1 by show (wr.alloc _).heap.size = _; simp] at h
            exact h
          have HXN := Lib.hid hxn
          have HOWN3 := Lib.hid hown3
          have HOWN4 := Lib.hid hown4
          have HBEL3 := Lib.hid hbel3
          have HBEL4 := Lib.hid hbel4
          have HLD := Lib.hid hld
          have s0 := HSC.out.c0
          have s1 := HSC.out.c1
          have s2 := HSC.out.c2
          have hlr : wr.heap.size < (wr.alloc (.cells #[.string xk, .string xv, .bool true] tCh)).heap.size := by simp
          clear hxn hown3 hown4 hbel3 hbel4 hsx hld HSC
          by_cases hl : k + 1 = n
          · have el : ((k : Int) + 1 == (n : Int)) = true := by rw [beq_iff_eq]; omega
            have hnone : d'.toList[k + 1]? = none := List.getElem?_eq_none (by rw [Array.length_toList, HDZ.out]; omega)
            have HNONE := Lib.hid hnone
            clear hnone
            go_wp2_with fail
            go_quiet (fail)
            go_wp2
            go_roundw
            case rel => exact ⟨k + 1, out, by rw [Array.length_toList, HDZ.out]; omega, by go_num, HOWN4.out _, HBEL4.out _, by rw [← HEQ.out, HLD.out, if_neg (by simp)], by omega⟩
            case measure => simp [intOf]; omega
          · have el : ((k : Int) + 1 == (n : Int)) = false := by rw [beq_eq_false_iff_ne]; omega
            have hkd2 : k + 1 < d'.size := by rw [HDZ.out]; omega
            obtain ⟨j0, _, _, _, _, _⟩ := Cel.of HH2.out hkd2
            obtain ⟨y, hy⟩ : ∃ y, y = d'[k + 1]! := ⟨_, rfl⟩
            rw [← hy] at j0
            have j0' : (wr.alloc (.cells #[.string xk, .string xv, .bool true] tCh)).cell? ⟨g, (k + 1) * 3, none⟩ = some (.string y.key) := by
              rw [Nat.zero_add] at j0
              exact ((HBEL4.out 0).cell (p := ⟨g, (k + 1) * 3, none⟩) HG2.out).trans j0
            have hsome : d'.toList[k + 1]? = some y := by rw [hy, Array.getElem?_toList, Array.getElem?_eq_getElem hkd2, getElem!_pos d' (k + 1) hkd2]
            have HSOME := Lib.hid hsome
            have l2 : (k : Int) + 1 < (n : Int) := by omega
            have l3 : ((k : Int) + 1).toNat = k + 1 := by omega
            clear j0 hsome hy hkd2
            obtain ⟨yk, yv, yg⟩ := y
            by_cases hkey : yk = xk
            · have ek : (yk.toList == xk.toList) = true := by rw [hkey]; simp
              have ek2 : (yk == xk) = true := by rw [hkey]; simp
              have HK := Lib.hid hkey
              clear hkey
              go_wp2_with fail
              go_quiet (fail)
              go_wp2
              go_roundw
              case rel => exact ⟨k + 1, out, by rw [Array.length_toList, HDZ.out]; omega, by go_num, HOWN4.out _, HBEL4.out _, by rw [← HEQ.out, HLD.out, if_neg (by rw [HSOME.out]; simp [HK.out])], by omega⟩
              case measure => simp [intOf]; omega
            · have ek : (yk.toList == xk.toList) = false := by rw [beq_eq_false_iff_ne]; exact fun e => hkey (toList_inj e)
              have ek2 : (yk == xk) = false := by rw [beq_eq_false_iff_ne]; exact hkey
              have HK := Lib.hid hkey
              clear hkey
              go_wp2_with fail
              go_quiet (fail)
              go_wp2
              go_roundw
              case rel => exact ⟨k + 1, out, by rw [Array.length_toList, HDZ.out]; omega, by go_num, HOWN4.out _, HBEL4.out _, by rw [← HEQ.out, HLD.out, if_neg (by simp)], by omega⟩
              case measure => simp [intOf]; omega
        | false =>
          have HSC := Lib.hid (StC.new wr xk xv false tCh)
          have hown3 : ∀ (q : Nat) (o : Obj), (((wr.alloc (.cells #[.string xk, .string xv, .bool false] tCh)).drewN q).alloc o).ownsRow w2.heap.size tCh 3 u6 out.length (ccells out) := fun q o =>
            ownsRow_block HO.out (fun g' hg' => by
              have := (HO.out.lt g' hg').2
              exact (Below.heap_alloc _ _ _ (by show g' < (wr.alloc _).heap.size; simp; omega)).trans (Below.heap_alloc wr _ _ this))
          have hown4 : ∀ (q : Nat), ((wr.alloc (.cells #[.string xk, .string xv, .bool false] tCh)).drewN q).ownsRow w2.heap.size tCh 3 u6 out.length (ccells out) := fun q =>
            ownsRow_block HO.out (fun g' hg' => Below.heap_alloc wr _ _ (HO.out.lt g' hg').2)
          have hbel4 : ∀ (q : Nat), Below w2.heap.size w2 ((wr.alloc (.cells #[.string xk, .string xv, .bool false] tCh)).drewN q) := fun q => by
            have h := HBR.out.alloc HBR.out.size (.cells #[.string xk, .string xv, .bool false] tCh)
            exact ⟨h.1, h.2, h.3, h.4, h.5⟩
          have hbel3 : ∀ (q : Nat) (o : Obj), Below w2.heap.size w2 (((wr.alloc (.cells #[.string xk, .string xv, .bool false] tCh)).drewN q).alloc o) := fun q o => (hbel4 q).alloc (hbel4 q).size o
          have hsx : d'.toList[k]? = some ⟨xk, xv, false⟩ := by rw [HX.out, Array.getElem?_toList, Array.getElem?_eq_getElem hkd, getElem!_pos d' k hkd]
          have hld := lasts_drop hsx
          have hxn : ∀ (q : Nat), RdX (((wr.alloc (.cells #[.string xk, .string xv, .bool false] tCh)).drewN q).alloc (.cells #[.string xk, .string xv, .bool false] tCh)) 3 (some ⟨wr.heap.size + 1, 0, none⟩) 1 [.string xk, .string xv, .bool false] := fun q => by
            have h := RdX.new ((wr.alloc (.cells #[.string xk, .string xv, .bool false] tCh)).drewN q) 3 #[.string xk, .string xv, .bool false] tCh rfl (encC_one ⟨xk, xv, false⟩)
            rw [show ((wr.alloc (.cells #[.string xk, .string xv, .bool false] tCh)).drewN q).heap.size = wr.heap.size + 1 by show (wr.alloc _).heap.size = _; simp] at h
            exact h
          have HXN := Lib.hid hxn
          have HOWN3 := Lib.hid hown3
          have HOWN4 := Lib.hid hown4
          have HBEL3 := Lib.hid hbel3
          have HBEL4 := Lib.hid hbel4
          have HLD := Lib.hid hld
          have s0 := HSC.out.c0
          have s1 := HSC.out.c1
          have s2 := HSC.out.c2
          have hlr : wr.heap.size < (wr.alloc (.cells #[.string xk, .string xv, .bool false] tCh)).heap.size := by simp
          clear hxn hown3 hown4 hbel3 hbel4 hsx hld HSC
          by_cases hl : k + 1 = n
          · have el : ((k : Int) + 1 == (n : Int)) = true := by rw [beq_iff_eq]; omega
            have hnone : d'.toList[k + 1]? = none := List.getElem?_eq_none (by rw [Array.length_toList, HDZ.out]; omega)
            have HNONE := Lib.hid hnone
            clear hnone
            go_wp2_with fail
            go_quiet (fail)
            go_wp2_with (at_builtin; (refine wpList_append_rd _ rfl (.tmp 45) (.tmp 47) _ rfl w2.heap.size tCh ti _ 3 40 Try.underlying36 HI.out HZ.out HS.out HB.out rfl (by omega) _ _ _ rfl (HOWN3.out _ _) _ 1 1 _ rfl (HXN.out _) ?_ ?_ ?_ ?_))
            · unfold maxLen; omega
            · omega
            · exact (HBEL3.out _ _).size
            intro v4 w4 hown5 hg5 _
            have hb5 : Below w2.heap.size w2 w4 := (HBEL3.out _ _).grown hg5 (HBEL3.out _ _).size (fun g' hg' => (HO.out.lt g' hg').1)
            have H5 := Lib.hid hown5
            have HB5 := Lib.hid hb5
            clear hown5 hb5 hg5
            go_wp2
            go_roundw
            case rel => exact ⟨k + 1, out ++ [⟨xk, xv, false⟩], by rw [Array.length_toList, HDZ.out]; omega, by go_num, by rw [List.length_append, ccells_append]; exact H5.out, HB5.out, by rw [← HEQ.out, HLD.out, if_pos (by rw [HNONE.out]; simp)]; simp, by rw [List.length_append]; simp; omega⟩
            case measure => simp [intOf]; omega
          · have el : ((k : Int) + 1 == (n : Int)) = false := by rw [beq_eq_false_iff_ne]; omega
            have hkd2 : k + 1 < d'.size := by rw [HDZ.out]; omega
            obtain ⟨j0, _, _, _, _, _⟩ := Cel.of HH2.out hkd2
            obtain ⟨y, hy⟩ : ∃ y, y = d'[k + 1]! := ⟨_, rfl⟩
            rw [← hy] at j0
            have j0' : (wr.alloc (.cells #[.string xk, .string xv, .bool false] tCh)).cell? ⟨g, (k + 1) * 3, none⟩ = some (.string y.key) := by
              rw [Nat.zero_add] at j0
              exact ((HBEL4.out 0).cell (p := ⟨g, (k + 1) * 3, none⟩) HG2.out).trans j0
            have hsome : d'.toList[k + 1]? = some y := by rw [hy, Array.getElem?_toList, Array.getElem?_eq_getElem hkd2, getElem!_pos d' (k + 1) hkd2]
            have HSOME := Lib.hid hsome
            have l2 : (k : Int) + 1 < (n : Int) := by omega
            have l3 : ((k : Int) + 1).toNat = k + 1 := by omega
            clear j0 hsome hy hkd2
            obtain ⟨yk, yv, yg⟩ := y
            by_cases hkey : yk = xk
            · have ek : (yk.toList == xk.toList) = true := by rw [hkey]; simp
              have ek2 : (yk == xk) = true := by rw [hkey]; simp
              have HK := Lib.hid hkey
              clear hkey
              go_wp2_with fail
              go_quiet (fail)
              go_wp2
              go_roundw
              case rel => exact ⟨k + 1, out, by rw [Array.length_toList, HDZ.out]; omega, by go_num, HOWN4.out _, HBEL4.out _, by rw [← HEQ.out, HLD.out, if_neg (by rw [HSOME.out]; simp [HK.out])], by omega⟩
              case measure => simp [intOf]; omega
            · have ek : (yk.toList == xk.toList) = false := by rw [beq_eq_false_iff_ne]; exact fun e => hkey (toList_inj e)
              have ek2 : (yk == xk) = false := by rw [beq_eq_false_iff_ne]; exact hkey
              have HK := Lib.hid hkey
              clear hkey
              go_wp2_with fail
              go_quiet (fail)
              go_wp2_with (at_builtin; (refine wpList_append_rd _ rfl (.tmp 45) (.tmp 47) _ rfl w2.heap.size tCh ti _ 3 40 Try.underlying36 HI.out HZ.out HS.out HB.out rfl (by omega) _ _ _ rfl (HOWN3.out _ _) _ 1 1 _ rfl (HXN.out _) ?_ ?_ ?_ ?_))
              · unfold maxLen; omega
              · omega
              · exact (HBEL3.out _ _).size
              intro v4 w4 hown5 hg5 _
              have hb5 : Below w2.heap.size w2 w4 := (HBEL3.out _ _).grown hg5 (HBEL3.out _ _).size (fun g' hg' => (HO.out.lt g' hg').1)
              have H5 := Lib.hid hown5
              have HB5 := Lib.hid hb5
              clear hown5 hb5 hg5
              go_wp2
              go_roundw
              case rel => exact ⟨k + 1, out ++ [⟨xk, xv, false⟩], by rw [Array.length_toList, HDZ.out]; omega, by go_num, by rw [List.length_append, ccells_append]; exact H5.out, HB5.out, by rw [← HEQ.out, HLD.out, if_pos (by rw [HSOME.out]; simp [HK.out])]; simp, by rw [List.length_append]; simp; omega⟩
              case measure => simp [intOf]; omega
      · obtain rfl : k = n := by omega
        go_wp2
        go_ret
        refine ⟨_, out, rfl, own_mono HO.out HB2.out.size, ?_, HB2.out.trans (HBR.out.mono HB2.out.size)⟩
        have e1 := HEQ.out
        rw [List.drop_of_length_le (by rw [Array.length_toList, HDZ.out]; omega)] at e1
        rw [show out = lasts d'.toList by simpa [lasts] using e1]
        exact ApplyOf.sorted HSO.out
end Go.Proofs.Ytgkenknplepmeaa
