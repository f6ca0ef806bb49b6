/-
  WALK: hammerpondref.Units.
-/
import Derived.Test.YtlkpbpecgdphaaaUd
import Derived.Test.YtlkpbpecgdphaaaUq
import Derived.Test.YtlkpbpecgdphaaaParse
import Derived.Test.YtlkpbpecgdphaaaPj
namespace Go.Proofs.Ytlkpbpecgdphaaa
open Go.RowKit

/-- Of each group, which earlier groups make what it needs. -/
def mkQ (out : List Gp) (i : Nat) : List (Option Nat) := match out[i]? with
  | some g => g.nd.map (makerO (out.take i))
  | none => []
theorem Blk.drewQ {w : World} {b n : Nat} {t : TypeId} {cs : Array Value} (h : Blk w b t cs) : Blk (w.drewN n) b t cs := by
  induction n with
  | zero => exact h
  | succ n ih => exact ih.drew
theorem below_drewQ {B n : Nat} {w w1 : World} (h : Below B w w1) : Below B w (w1.drewN n) := by
  induction n with
  | zero => exact h
  | succ n ih => exact ih.drew
theorem mkQ_at {out : List Gp} {i : Nat} {g : Gp} (h : out[i]? = some g) : mkQ out i = g.nd.map (makerO (out.take i)) := by simp [mkQ, h]
def idS (n k : Nat) : List Int := (idL n).take k ++ List.replicate (n - k) 0
theorem idL_len (n : Nat) : (idL n).length = n := by simp [idL]
theorem idS_len {n k : Nat} (h : k ≤ n) : (idS n k).length = n := by simp [idS, idL]; omega
theorem idS_zero (n : Nat) : icells (idS n 0) = Array.replicate n (.int .i64 0) := by simp [idS, icells]
theorem idS_end (n : Nat) : idS n n = idL n := by simp only [idS, Nat.sub_self]; rw [List.take_of_length_le (by rw [idL_len]; exact Nat.le_refl _)]; simp
theorem idS_succ {n k : Nat} (h : k < n) : idS n (k + 1) = (idS n k).set k (k : Int) := by
  have e1 : (idL n).take (k + 1) = (idL n).take k ++ [(k : Int)] := by
    rw [List.take_add_one, List.getElem?_eq_getElem (by rw [idL_len]; exact h)]; simp [idL]
  have e2 : List.replicate (n - k) (0 : Int) = 0 :: List.replicate (n - (k + 1)) 0 := by rw [show n - k = (n - (k + 1)) + 1 by omega]; rfl
  simp only [idS]
  rw [e1, e2, List.set_append_right _ _ (by simp [idL_len]; omega), List.append_assoc]
  simp [idL_len, Nat.min_eq_left (Nat.le_of_lt h)]
theorem relaxI_len (st : List Bool) (i : Nat) : ∀ (os : List (Option Nat)) (m : List Int), (relaxI st m i os).length = m.length
  | [], _ => rfl
  | o :: os, m => (relaxI_len st i os (relaxO st m i o)).trans (relaxO_len st m i o)
theorem relaxN_succ (st : List Bool) (M : Nat → List (Option Nat)) (m : List Int) (k : Nat) : relaxN st M m (k + 1) = relaxI st (relaxN st M m k) k (M k) := by simp [relaxN, List.range_succ]
theorem relaxN_len (st : List Bool) (M : Nat → List (Option Nat)) (m : List Int) : ∀ k, (relaxN st M m k).length = m.length
  | 0 => rfl
  | k + 1 => by rw [relaxN_succ, relaxI_len, relaxN_len st M m k]
theorem marksR_len (n : Nat) (st : List Bool) (M : Nat → List (Option Nat)) : ∀ t, (marksR n st M t).length = n
  | 0 => idL_len n
  | t + 1 => (relaxN_len st M _ n).trans (marksR_len n st M t)
theorem relaxI_take {st : List Bool} {m : List Int} {i j : Nat} {os : List (Option Nat)} {o : Option Nat} (h : os[j]? = some o) : relaxI st m i (os.take (j + 1)) = relaxO st (relaxI st m i (os.take j)) i o := by
  rw [List.take_add_one, h]; simp [relaxI]
def unitK (st : List Bool) (mk : List Int) (i k : Nat) : List Nat := (List.range k).filter fun k => st.getD k false && (clV mk k == (i : Int))
theorem unitK_end (n : Nat) (st : List Bool) (mk : List Int) (i : Nat) : unitK st mk i n = unitQ n st mk i := rfl
theorem unitK_succ (st : List Bool) (mk : List Int) (i k : Nat) : unitK st mk i (k + 1) = if (st.getD k false && (clV mk k == (i : Int))) = true then unitK st mk i k ++ [k] else unitK st mk i k := by
  simp only [unitK, List.range_succ, List.filter_append, List.filter_cons, List.filter_nil]
  split <;> simp_all
theorem unitK_len (st : List Bool) (mk : List Int) (i k : Nat) : (unitK st mk i k).length ≤ k := Nat.le_trans (List.length_filter_le _ _) (by simp)
def outK (n : Nat) (st : List Bool) (mk : List Int) (ph : Nat → Bool) (i : Nat) : List (List Nat) := ((List.range i).map (unitQ n st mk)).filter (someB ph)
theorem outK_succ (n : Nat) (st : List Bool) (mk : List Int) (ph : Nat → Bool) (i : Nat) : outK n st mk ph (i + 1) = if someB ph (unitQ n st mk i) = true then outK n st mk ph i ++ [unitQ n st mk i] else outK n st mk ph i := by
  simp only [outK, List.range_succ, List.map_append, List.filter_append, List.map_cons, List.map_nil, List.filter_cons, List.filter_nil]
  split <;> simp_all
theorem outK_len (n : Nat) (st : List Bool) (mk : List Int) (ph : Nat → Bool) (i : Nat) : (outK n st mk ph i).length ≤ i := Nat.le_trans (List.length_filter_le _ _) (by simp)
/-- A unit that was made apart is laid behind the others. -/
theorem UnOwn.push {w w' : World} {B B' : Nat} {v v' x : Value} {U : List (List Nat)} {V : List Value} {u : List Nat} (h : UnOwn w B v U V) (ho : w'.ownsRow B tII 1 v' (U.length + 1) (V ++ [x])) (hg : w.grownBy w' v.ownBlock) (hx : w.ownsRow B' tI 1 x u.length (ints u)) (hB : B ≤ B') (hlow : ∀ y ∈ V, ∀ g, y.ownBlock = some g → g < B') : UnOwn w' B v' (U ++ [u]) (V ++ [x]) := by
  have keep : ∀ {C n : Nat} {y : Value} {ys : List Value}, w.ownsRow C tI 1 y n ys → w'.ownsRow C tI 1 y n ys := fun {C n y ys} hy => hy.kept hg (by
    rcases hy' : y.ownBlock with _ | k
    · exact .inl rfl
    · exact .inr fun e => rows_apart hy h.row (by decide) k hy' e.symm)
  refine ⟨by simpa using ho, by simp [h.len], fun i y t hy ht => ?_, fun i j g y z hy hz gy gz => ?_⟩
  · rcases Nat.lt_or_ge i V.length with g | g
    · rw [List.getElem?_append_left g] at hy
      rw [List.getElem?_append_left (by rw [← h.len]; exact g)] at ht
      exact keep (h.each i y t hy ht)
    · rw [List.getElem?_append_right g] at hy
      rw [List.getElem?_append_right (by rw [← h.len]; exact g), ← h.len] at ht
      match hi : i - V.length with
      | 0 =>
        rw [hi] at hy ht
        simp at hy ht
        subst hy ht
        exact ownT_more (keep hx) hB
      | n + 1 => rw [hi] at hy; simp at hy
  · have one : ∀ {i : Nat} {y : Value}, (V ++ [x])[i]? = some y → (V[i]? = some y ∧ y ∈ V) ∨ (i = V.length ∧ y = x) := fun {i y} hy => by
      rcases Nat.lt_or_ge i V.length with q | q
      · rw [List.getElem?_append_left q] at hy; exact .inl ⟨hy, List.mem_of_getElem? hy⟩
      · rw [List.getElem?_append_right q] at hy
        match hi : i - V.length with
        | 0 => rw [hi] at hy; simp at hy; exact .inr ⟨by omega, hy.symm⟩
        | n + 1 => rw [hi] at hy; simp at hy
    rcases one hy with ⟨a1, a2⟩ | ⟨a1, a2⟩ <;> rcases one hz with ⟨b1, b2⟩ | ⟨b1, b2⟩
    · exact h.apart i j g y z a1 b1 gy gz
    · subst b2
      have := hlow y a2 g gy
      have := (hx.lt g gz).1
      omega
    · subst a2
      have := hlow z b2 g gz
      have := (hx.lt g gy).1
      omega
    · omega
theorem UnOwn.low {w : World} {B : Nat} {v : Value} {U : List (List Nat)} {V : List Value} (h : UnOwn w B v U V) : ∀ y ∈ V, ∀ g, y.ownBlock = some g → g < w.heap.size := fun y hy g hg => by
  obtain ⟨i, hi⟩ := List.getElem?_of_mem hy
  obtain ⟨u, hu⟩ : ∃ u, U[i]? = some u := ⟨_, List.getElem?_eq_getElem (by rw [← h.len]; exact (List.getElem?_eq_some_iff.1 hi).1)⟩
  exact ((h.each i y u hi hu).lt g hg).2
def Ur1 (w : World) (n : Nat) (i : Value) (wr : World) : Prop := ∃ k : Nat, k ≤ n ∧ i = .int .i64 k ∧ Below w.heap.size w wr ∧ Blk wr w.heap.size tI (icells (idS n k))
def Ur2 (w : World) (_n : Nat) (m : Nat → List Int) (N : Nat) (i : Value) (wr : World) : Prop := ∃ k : Nat, k ≤ N ∧ i = .int .i64 k ∧ Below w.heap.size w wr ∧ Blk wr w.heap.size tI (icells (m k))
def Ur5 (w7 : World) (n : Nat) (st : List Bool) (mk : List Int) (ph : Nat → Bool) (v i : Value) (wr : World) : Prop := ∃ (k : Nat) (V : List Value), k ≤ n ∧ i = .int .i64 k ∧ Below w7.heap.size w7 wr ∧ UnOwn wr w7.heap.size v (outK n st mk ph k) V
def Ur6 (w8 : World) (n i : Nat) (st : List Bool) (mk : List Int) (ph : Nat → Bool) (v r j : Value) (wr : World) : Prop := ∃ k : Nat, k ≤ n ∧ j = .int .i64 k ∧ r = .bool (someB ph (unitK st mk i k)) ∧ Below w8.heap.size w8 wr ∧ wr.ownsRow w8.heap.size tI 1 v (unitK st mk i k).length (ints (unitK st mk i k))
theorem someB_snoc (ph : Nat → Bool) (u : List Nat) (k : Nat) : someB ph (u ++ [k]) = (someB ph u || !ph k) := by simp [someB]
set_option maxHeartbeats 8000000 in
set_option maxRecDepth 100000 in
theorem refUnits_any (w : World) (A B : Option Addr) (n c m cb : Nat) (out : List Gp) (R : List Row4) (st : List Bool) (h : GpRd w A n c out R) (hs : RdX w 1 B m (bcells st)) (hn : n ≤ 10000) (hnm : n ≤ m) (hm : m ≤ 1000000) (ht : ∀ g ∈ out, g.tg.length ≤ 1000) :
    Calls Try.prog 16 #[.slice A n c, .slice B m cb] w fun e w' => ∃ A' c' V, e = .returned (.slice A' (unitsQ n st (marksR n st (mkQ out) n) (phV out)).length c') ∧ UnOwn w' w.heap.size (.slice A' (unitsQ n st (marksR n st (mkQ out) n) (phV out)).length c') (unitsQ n st (marksR n st (mkQ out) n) (phV out)) V ∧ Below w.heap.size w w' := by
  have HG := Lib.hid h
  have HS := Lib.hid hs
  have HOL := Lib.hid h.len
  have HT := Lib.hid ht
  have hmk := make_ints w n hn
  obtain ⟨i1, hi1, hz1, hsi1, hby1⟩ := int_parts
  obtain ⟨i2, hi2, hz2, hsi2, hby2⟩ := row_parts
  have HI1 := Lib.hid hi1
  have HZ1 := Lib.hid hz1
  have HS1 := Lib.hid hsi1
  have HY1 := Lib.hid hby1
  have HI2 := Lib.hid hi2
  have HZ2 := Lib.hid hz2
  have HS2 := Lib.hid hsi2
  have HY2 := Lib.hid hby2
  clear h hs ht hi1 hz1 hsi1 hby1 hi2 hz2 hsi2 hby2
  go_enter Try.func16, Try.ntmps16
  go_wp2
  go_loopw [7] (fun i wr => Ur1 w n i wr) (fun i _ => n - (intOf i).toNat)
  case atStart => exact ⟨0, Nat.zero_le _, by go_num, (Below.refl _ _).alloc (Nat.le_refl _) _, by rw [idS_zero]; exact Blk.new _ _ _⟩
  case round =>
    obtain ⟨k, hk, rfl, hu, hb⟩ := hrel
    have HU := Lib.hid hu
    have HC := Lib.hid hb
    clear hu hb
    by_cases hlt : k < n
    · have hkz : (k : Int) < (n : Int) := by omega
      have zk := HC.out.free k
      have ck : ∃ u, wr.cell? ⟨w.heap.size, k, none⟩ = some u := ⟨_, by rw [HC.out.cell, icells_at _ _ (by rw [idS_len hk]; exact hlt)]⟩
      obtain ⟨u, ck⟩ := ck
      have HN := Lib.hid (idS_succ hlt)
      go_wp2
      go_roundw
      case rel => exact ⟨k + 1, by omega, by go_num, HU.out.setCell (p := ⟨w.heap.size, k, none⟩) (Nat.le_refl _) _, by rw [HN.out, ← icells_set]; exact HC.out.set _ _⟩
      case measure => simp [intOf]; omega
    · obtain rfl : k = n := by omega
      rw [idS_end] at HC
      obtain ⟨w1, hw1⟩ : ∃ w1, w1 = wr := ⟨_, rfl⟩
      subst hw1
      clear hmk
      go_wp2
      go_loopw [8] (fun i wr => Ur2 w k (fun t => marksR k st (mkQ out) t) k i wr) (fun i _ => k - (intOf i).toNat)
      case atStart => exact ⟨0, Nat.zero_le _, by go_num, HU.out, HC.out⟩
      case round =>
        obtain ⟨t, ht, rfl, hu2, hb2⟩ := hrel
        have HU2 := Lib.hid hu2
        have HC2 := Lib.hid (show Blk wr w.heap.size tI (icells (marksR k st (mkQ out) t)) from hb2)
        clear hu2 hb2
        by_cases hlt : t < k
        · have htz : (t : Int) < (k : Int) := by omega
          have HML := Lib.hid (marksR_len k st (mkQ out) t)
          have HMS := Lib.hid (show marksR k st (mkQ out) (t + 1) = relaxN st (mkQ out) (marksR k st (mkQ out) t) k from rfl)
          revert HC2 HML HMS
          generalize marksR k st (mkQ out) t = m0
          intro HC2 HML HMS
          obtain ⟨w2, hw2⟩ : ∃ w2, w2 = wr := ⟨_, rfl⟩
          subst hw2
          go_wp2
          go_loopw [9] (fun i wr => Ur2 w k (fun i => relaxN st (mkQ out) m0 i) k i wr) (fun i _ => k - (intOf i).toNat)
          case atStart => exact ⟨0, Nat.zero_le _, by go_num, HU2.out, HC2.out⟩
          case round =>
            obtain ⟨i, hi, rfl, hu3, hb3⟩ := hrel
            have HU3 := Lib.hid hu3
            have HC3 := Lib.hid (show Blk wr w.heap.size tI (icells (relaxN st (mkQ out) m0 i)) from hb3)
            clear hu3 hb3
            by_cases hlt2 : i < k
            · have hiz : (i : Int) < (k : Int) := by omega
              have hgp := HG.out.belowS HU3.out
              obtain ⟨x, hx⟩ : ∃ x, R[i]? = some x := ⟨_, List.getElem?_eq_getElem (by rw [hgp.rows.1]; exact hlt2)⟩
              obtain ⟨g, hg2⟩ : ∃ g, out[i]? = some g := ⟨_, List.getElem?_eq_getElem (by rw [hgp.len]; exact hlt2)⟩
              have HX := Lib.hid hx
              have HGG := Lib.hid hg2
              obtain ⟨b', off, hA5, hb5, hc1, hc2, hc3, hc4⟩ := hgp.rows.at_ hx
              subst hA5
              obtain ⟨-, ⟨An, cn, e2, -⟩, -, -⟩ := hgp.each i x g hx hg2
              obtain ⟨x1, x2, x3, x4⟩ := x
              dsimp only at e2
              subst e2
              have HNE := Lib.hid (fun (W : World) (hb : Below w.heap.size w W) => show W.cell? ⟨b', off + i * 4 + 1, none⟩ = some (.slice An g.nd.length cn) ∧ RdS W W.heap.size An g.nd.length cn g.nd from by
                obtain ⟨b2, o2, h2, _, c1, c2, c3, c4⟩ := (HG.out.belowS hb).rows.at_ HX.out
                injection h2 with h2
                injection h2 with h2 h3
                subst h2 h3
                obtain ⟨-, ⟨An', cn', e2, r2⟩, -⟩ := (HG.out.belowS hb).each i _ g HX.out HGG.out
                injection e2 with e2 _ e2'
                subst e2 e2'
                exact ⟨c2, r2⟩)
              have hndl := Nat.le_trans (HNE.out wr HU3.out).2.2.1 (HNE.out wr HU3.out).2.2.2.1
              unfold maxLen at hndl
              have hkc : k ≤ c := hgp.rows.2.1
              have HM := Lib.hid (mkQ_at HGG.out)
              have HMK := Lib.hid (fun (t : ByteArray) (W : World) (hb : Below w.heap.size w W) => makerOf_any (some ⟨b', off, none⟩) i c (out.take i) (R.take i) t W ((HG.out.belowS hb).first (by omega)) (fun g hg => HT.out g (List.mem_of_mem_take hg)))
              have HRL := Lib.hid (show (relaxN st (mkQ out) m0 i).length = k from (relaxN_len st (mkQ out) m0 i).trans HML.out)
              have HRS := Lib.hid (relaxN_succ st (mkQ out) m0 i)
              revert HC3 HRL HRS
              generalize relaxN st (mkQ out) m0 i = m1
              intro HC3 HRL HRS
              obtain ⟨w3, hw3⟩ : ∃ w3, w3 = wr := ⟨_, rfl⟩
              subst hw3
              clear hx hg2 hgp hc1 hc2 hc3 hc4
              obtain ⟨d0, -⟩ := HNE.out w3 HU3.out
              go_wp2
              go_loopw [10] (fun j wr => Ur2 w k (fun j => relaxI st m1 i ((mkQ out i).take j)) g.nd.length j wr) (fun j _ => g.nd.length - (intOf j).toNat)
              case atStart => exact ⟨0, Nat.zero_le _, by go_num, HU3.out, HC3.out⟩
              case round =>
                obtain ⟨j, hj, rfl, hu4, hb4⟩ := hrel
                have HU4 := Lib.hid hu4
                have HC4 := Lib.hid (show Blk wr w.heap.size tI (icells (relaxI st m1 i ((mkQ out i).take j))) from hb4)
                obtain ⟨d1, r1⟩ := HNE.out wr hu4
                have HR1 := Lib.hid r1
                clear hu4 hb4 d0 r1
                by_cases hlt3 : j < g.nd.length
                · obtain ⟨tx, htx⟩ : ∃ t, g.nd[j]? = some t := ⟨_, List.getElem?_eq_getElem hlt3⟩
                  obtain ⟨b2, o2, rfl, hb2l, ct2⟩ := HR1.out.at_ htx
                  have hjz : (j : Int) < (g.nd.length : Int) := by omega
                  have hiz0 : (0 : Int) ≤ (i : Int) := by omega
                  have hic : (i : Int) ≤ (c : Int) := by omega
                  have hicn : i ≤ c := by omega
                  have hon : (mkQ out i)[j]? = some (makerO (out.take i) tx) := by rw [HM.out, List.getElem?_map, htx]; rfl
                  have HSN := Lib.hid (show relaxI st m1 i ((mkQ out i).take (j + 1)) = relaxO st (relaxI st m1 i ((mkQ out i).take j)) i (makerO (out.take i) tx) from relaxI_take hon)
                  have HLM := Lib.hid (show (relaxI st m1 i ((mkQ out i).take j)).length = k from (relaxI_len st i _ m1).trans HRL.out)
                  have HLT := Lib.hid (show ∀ a, makerO (out.take i) tx = some a → a < i from fun a e => by have := makerO_lt e; rw [List.length_take] at this; omega)
                  have HCM := Lib.hid (HMK.out tx)
                  revert HC4 HSN HLM
                  generalize relaxI st m1 i ((mkQ out i).take j) = m2
                  intro HC4 HSN HLM
                  clear htx hon
                  go_wp2_with fail
                  go_region_with (first | (go_at_call 26; refine (HCM.out _ HU4.out.drew).mono ?_; rintro e w6 ⟨rfl, rfl⟩))
                  cases hmo : makerO (out.take i) tx with
                  | none =>
                    rw [hmo] at HSN
                    rw [show idxV none = -1 from rfl]
                    have HSN2 := Lib.hid (show relaxI st m1 i ((mkQ out i).take (j + 1)) = m2 from HSN.out)
                    clear hmo HSN
                    go_wp2
                    go_roundw
                    case rel => exact ⟨j + 1, by omega, by go_num, HU4.out.drew, by show Blk _ _ _ (icells (relaxI st m1 i ((mkQ out i).take (j + 1)))); rw [HSN2.out]; exact HC4.out⟩
                    case measure => simp [intOf]; omega
                  | some a =>
                    have hai := HLT.out a hmo
                    rw [hmo] at HSN
                    rw [show idxV (some a) = (a : Int) from rfl]
                    clear hmo
                    obtain ⟨bs, os, hBs, hbsl, si⟩ := bools_at HS.out HU4.out (k := i) (by omega)
                    subst hBs
                    obtain ⟨bs', os', hBs, _, sa⟩ := bools_at HS.out HU4.out (k := a) (by omega)
                    injection hBs with hBs
                    injection hBs with hBs hBs2
                    subst hBs hBs2
                    have si' : wr.drew.cell? ⟨bs, os + i, none⟩ = some (.bool (st.getD i false)) := si
                    have sa' : wr.drew.cell? ⟨bs, os + a, none⟩ = some (.bool (st.getD a false)) := sa
                    have a0 : (0 : Int) ≤ (a : Int) := by omega
                    have a1 : (a : Int) < (m : Int) := by omega
                    have a2 : (i : Int) < (m : Int) := by omega
                    have a3 : (a : Int) < (k : Int) := by omega
                    have ci : wr.cell? ⟨w.heap.size, i, none⟩ = some (.int .i64 (clV m2 i)) := by rw [HC4.out.cell, icells_at _ _ (by rw [HLM.out]; exact hlt2)]
                    have ca : wr.cell? ⟨w.heap.size, a, none⟩ = some (.int .i64 (clV m2 a)) := by rw [HC4.out.cell, icells_at _ _ (by rw [HLM.out]; omega)]
                    have HV := Lib.hid (show relaxO st m2 i (some a) = if st.getD i false = true ∧ st.getD a false = true then (m2.set i (min (clV m2 i) (clV m2 a))).set a (min (clV m2 i) (clV m2 a)) else m2 from rfl)
                    rw [HV.out] at HSN
                    have HZ := Lib.hid (fun x => (HC4.out.set i (.int .i64 x)).set a (.int .i64 x))
                    clear HV
                    generalize st.getD i false = vi at si si' HSN
                    generalize st.getD a false = va at sa sa' HSN
                    generalize clV m2 i = xi at ci HSN
                    generalize clV m2 a = xa at ca HSN
                    cases vi with
                    | false =>
                      have HSN2 := Lib.hid (show relaxI st m1 i ((mkQ out i).take (j + 1)) = m2 from by rw [HSN.out]; simp)
                      clear HSN
                      go_wp2
                      go_roundw
                      case rel => exact ⟨j + 1, by omega, by go_num, HU4.out.drew, by show Blk _ _ _ (icells (relaxI st m1 i ((mkQ out i).take (j + 1)))); rw [HSN2.out]; exact HC4.out⟩
                      case measure => simp [intOf]; omega
                    | true =>
                      cases va with
                      | false =>
                        have HSN2 := Lib.hid (show relaxI st m1 i ((mkQ out i).take (j + 1)) = m2 from by rw [HSN.out]; simp)
                        clear HSN
                        go_wp2
                        go_roundw
                        case rel => exact ⟨j + 1, by omega, by go_num, HU4.out.drew, by show Blk _ _ _ (icells (relaxI st m1 i ((mkQ out i).take (j + 1)))); rw [HSN2.out]; exact HC4.out⟩
                        case measure => simp [intOf]; omega
                      | true =>
                        have HSN2 := Lib.hid (show relaxI st m1 i ((mkQ out i).take (j + 1)) = (m2.set i (min xi xa)).set a (min xi xa) from by rw [HSN.out, if_pos ⟨rfl, rfl⟩])
                        have zi : wr.frozen? ⟨w.heap.size, i, none⟩ = false := HC4.out.free i
                        have za : wr.frozen? ⟨w.heap.size, a, none⟩ = false := HC4.out.free a
                        clear HSN
                        go_wp2_with fail
                        go_quiet (fail)
                        go_wp2
                        go_roundw
                        case rel => exact ⟨j + 1, by omega, by go_num, ((below_drewQ HU4.out).setCell (p := ⟨w.heap.size, i, none⟩) (Nat.le_refl _) _).setCell (p := ⟨w.heap.size, a, none⟩) (Nat.le_refl _) _, by show Blk _ _ _ (icells (relaxI st m1 i ((mkQ out i).take (j + 1)))); rw [HSN2.out, ← icells_set, ← icells_set]; first | exact ((HC4.out.drewQ).set i _).set a _ | (rw [min_if]; exact ((HC4.out.drewQ).set i _).set a _)⟩
                        case measure => simp [intOf]; omega
                · obtain rfl : j = g.nd.length := by omega
                  have HE := Lib.hid (show relaxN st (mkQ out) m0 (i + 1) = relaxI st m1 i ((mkQ out i).take g.nd.length) from by
                    rw [HRS.out, List.take_of_length_le (by rw [HM.out]; simp)])
                  go_wp2
                  go_roundw
                  case rel => exact ⟨i + 1, by omega, by go_num, HU4.out, by show Blk _ _ _ (icells (relaxN st (mkQ out) m0 (i + 1))); rw [HE.out]; exact HC4.out⟩
                  case measure => simp [intOf]; omega
            · obtain rfl : i = k := by omega
              go_wp2
              go_roundw
              case rel => exact ⟨t + 1, by omega, by go_num, HU3.out, by show Blk _ _ _ (icells (marksR _ st (mkQ out) (t + 1))); rw [HMS.out]; exact HC3.out⟩
              case measure => simp [intOf]; omega
        · obtain rfl : t = k := by omega
          have HML := Lib.hid (marksR_len t st (mkQ out) t)
          have HUE := Lib.hid (show outK t st (marksR t st (mkQ out) t) (phV out) t = unitsQ t st (marksR t st (mkQ out) t) (phV out) from rfl)
          obtain ⟨mk, hmk⟩ : ∃ mk, mk = marksR t st (mkQ out) t := ⟨_, rfl⟩
          rw [← hmk] at HC2 HML HUE
          have HMKE := Lib.hid hmk
          clear hmk
          obtain ⟨w7, hw7⟩ : ∃ w7, w7 = wr := ⟨_, rfl⟩
          subst hw7
          have h7 : w.heap.size ≤ w7.heap.size := HU2.out.size
          have hb7l := HC2.out.lt
          go_wp2
          go_loopw [13, 14] (fun v i wr => Ur5 w7 t st mk (phV out) v i wr) (fun _ i _ => t - (intOf i).toNat)
          case atStart => exact ⟨0, [], Nat.zero_le _, by go_num, Below.refl _ _, UnOwn.empty _ _⟩
          case round =>
            obtain ⟨i, V, hi, rfl, hu3, hun⟩ := hrel
            obtain ⟨Av, cv, rfl⟩ := hun.ub
            have HU3 := Lib.hid hu3
            have HN3 := Lib.hid hun
            clear hu3 hun
            by_cases hlt2 : i < t
            · have hiz : (i : Int) < (t : Int) := by omega
              obtain ⟨w8, hw8⟩ : ∃ w8, w8 = wr := ⟨_, rfl⟩
              subst hw8
              have h78 : w7.heap.size ≤ w8.heap.size := HU3.out.size
              go_wp2
              go_loopw [15, 16, 17] (fun v r j wr => Ur6 w8 t i st mk (phV out) v r j wr) (fun _ _ j _ => t - (intOf j).toNat)
              case atStart => exact ⟨0, Nat.zero_le _, by go_num, rfl, Below.refl _ _, World.ownsRow_nil _ _ _ _⟩
              case round =>
                obtain ⟨j, hj, rfl, rfl, hu4, hown⟩ := hrel
                obtain ⟨Au, cu, rfl⟩ := own_shape hown
                have HU4 := Lib.hid hu4
                have HO4 := Lib.hid hown
                have hul := unitK_len st mk i j
                have HUS := Lib.hid (unitK_succ st mk i j)
                clear hu4 hown
                by_cases hlt3 : j < t
                · have hjz : (j : Int) < (t : Int) := by omega
                  have hb24 : Below w.heap.size w wr := HU2.out.trans ((HU3.out.trans (HU4.out.mono h78)).mono h7)
                  have hcw : Blk wr w.heap.size tI (icells mk) := ((HU3.out.trans (HU4.out.mono h78)).block _ hb7l).trans HC2.out
                  obtain ⟨bs, os, hBs, hbsl, sj⟩ := bools_at HS.out hb24 (k := j) (by omega)
                  subst hBs
                  have cj : wr.cell? ⟨w.heap.size, j, none⟩ = some (.int .i64 (clV mk j)) := by rw [hcw.cell, icells_at _ _ (by rw [HML.out]; exact hlt3)]
                  have hjm : (j : Int) < (m : Int) := by omega
                  have hgp := HG.out.belowS hb24
                  obtain ⟨x, hx⟩ : ∃ x, R[j]? = some x := ⟨_, List.getElem?_eq_getElem (by rw [hgp.rows.1]; exact hlt3)⟩
                  obtain ⟨g, hg2⟩ : ∃ g, out[j]? = some g := ⟨_, List.getElem?_eq_getElem (by rw [hgp.len]; exact hlt3)⟩
                  obtain ⟨b0, off0, hA0, hb0, -⟩ := HG.out.rows.at_ hx
                  obtain ⟨b', off, hA5, hb5, hc1, hc2, hc3, hc4⟩ := hgp.rows.at_ hx
                  have hbb : b' < w.heap.size := by rw [hA5] at hA0; injection hA0 with hA0; injection hA0 with hA0 _; omega
                  subst hA5
                  clear hA0
                  obtain ⟨-, -, -, e4⟩ := hgp.each j x g hx hg2
                  rw [e4, show g.ph = phV out j by simp [phV, hg2]] at hc4
                  generalize hsj : st.getD j false = vj at sj HUS
                  generalize clV mk j = xj at cj HUS
                  generalize hph : phV out j = pj at hc4
                  clear hgp hx hg2 e4 hc1 hc2 hc3 hcw hsj
                  by_cases hc : (vj && (xj == (i : Int))) = true
                  · rw [if_pos hc] at HUS
                    obtain ⟨rfl, hxe⟩ : vj = true ∧ xj = (i : Int) := by simpa using hc
                    subst hxe
                    have HRS := Lib.hid (show someB (phV out) (unitK st mk i (j + 1)) = (someB (phV out) (unitK st mk i j) || !pj) by rw [HUS.out, someB_snoc, hph])
                    have hal : ((wr.alloc (.cells #[.int .i64 (j : Int)] tI)).cell? ⟨b', off + j * 4 + 3, none⟩) = some (.bool pj) := by rw [World.cell?_alloc_lt _ _ _ (World.block_lt_of_cell? _ _ hc4)]; exact hc4
                    have HPJ := Lib.hid hc4
                    have HBL := Lib.hid (World.block_lt_of_cell? _ _ hc4)
                    clear hc hph
                    revert HRS
                    generalize someB (phV out) (unitK st mk i j) = rj
                    intro HRS
                    have HO4a := Lib.hid (HO4.out.alloc (.cells #[.int .i64 (j : Int)] tI))
                    have hs48 : w8.heap.size ≤ wr.heap.size := HU4.out.size
                    go_wp2_with (at_builtin; refine wpList_append_rd _ rfl (.tmp 116) (.tmp 118) _ rfl w8.heap.size tI i1 _ 1 8 Try.underlying55 HI1.out HZ1.out HS1.out HY1.out rfl (by omega) _ _ _ rfl HO4a.out _ 1 1 _ rfl (rdx_int wr j) ?_ ?_ ?_ ?_)
                    · unfold maxLen; omega
                    · omega
                    · first | omega | (simp; omega)
                    intro v9 w9 hown9 hg9 hat9
                    obtain ⟨A9, c9, rfl⟩ := own_shape hown9
                    have hbo : (Value.slice Au (unitK st mk i j).length cu).ownBlock ≠ some b' := fun e => by have := (HO4.out.lt b' e).1; omega
                    have c9p : w9.cell? ⟨b', off + j * 4 + 3, none⟩ = some (.bool pj) := hg9.cell hal (fun e => hbo e.symm)
                    have HO9 := Lib.hid hown9
                    have HU9 := Lib.hid (show Below w8.heap.size w8 w9 from (HU4.out.alloc HU4.out.size (.cells #[.int .i64 (j : Int)] tI)).grown hg9 (by simp; omega) (fun g hg => (HO4.out.lt g hg).1))
                    clear hown9 hg9 hat9 hal hbo
                    cases rj with
                    | true =>
                      have HRS2 := Lib.hid (show someB (phV out) (unitK st mk i (j + 1)) = true from HRS.out)
                      clear HRS
                      go_wp2
                      go_roundw
                      case rel => exact ⟨j + 1, by omega, by go_num, by rw [HRS2.out], HU9.out, by rw [HUS.out, ints_snoc]; simpa using HO9.out⟩
                      case measure => simp [intOf]; omega
                    | false =>
                      have HRS2 := Lib.hid (show someB (phV out) (unitK st mk i (j + 1)) = !pj from HRS.out)
                      clear HRS
                      go_wp2
                      go_roundw
                      case rel => exact ⟨j + 1, by omega, by go_num, by rw [HRS2.out], HU9.out, by rw [HUS.out, ints_snoc]; simpa using HO9.out⟩
                      case measure => simp [intOf]; omega
                  · rw [if_neg hc] at HUS
                    cases vj with
                    | false =>
                      clear hc hph
                      go_wp2
                      go_roundw
                      case rel => exact ⟨j + 1, by omega, by go_num, by rw [HUS.out], HU4.out, by rw [HUS.out]; exact HO4.out⟩
                      case measure => simp [intOf]; omega
                    | true =>
                      have hxf : (xj == (i : Int)) = false := by cases hq : (xj == (i : Int)) <;> simp_all
                      clear hc hph
                      go_wp2
                      go_roundw
                      case rel => exact ⟨j + 1, by omega, by go_num, by rw [HUS.out], HU4.out, by rw [HUS.out]; exact HO4.out⟩
                      case measure => simp [intOf]; omega
                · obtain rfl : j = t := by omega
                  have HOS := Lib.hid (outK_succ j st mk (phV out) i)
                  rw [unitK_end] at HO4 ⊢
                  rw [unitK_end] at hul
                  have HN4 := Lib.hid (HN3.out.below HU4.out)
                  have HU5 := Lib.hid (HU3.out.trans (HU4.out.mono h78))
                  have hol := outK_len j st mk (phV out) i
                  cases hsb : someB (phV out) (unitQ j st mk i) with
                  | false =>
                    rw [hsb] at HOS
                    have HOS2 := Lib.hid (show outK j st mk (phV out) (i + 1) = outK j st mk (phV out) i by rw [HOS.out]; simp)
                    clear hsb HOS
                    go_wp2
                    go_roundw
                    case rel => exact ⟨i + 1, V, by omega, by go_num, HU5.out, by rw [HOS2.out]; exact HN4.out⟩
                    case measure => simp [intOf]; omega
                  | true =>
                    rw [hsb] at HOS
                    have HOS2 := Lib.hid (show outK j st mk (phV out) (i + 1) = outK j st mk (phV out) i ++ [unitQ j st mk i] by rw [HOS.out]; simp)
                    clear hsb HOS
                    have hrx : RdX (wr.alloc (.cells #[.slice Au (unitQ j st mk i).length cu] tII)) 1 (some ⟨wr.heap.size, 0, none⟩) 1 [.slice Au (unitQ j st mk i).length cu] := RdX.new wr 1 #[.slice Au (unitQ j st mk i).length cu] tII rfl (by intro u hu; simp at hu; subst hu; rfl)
                    have HRX := Lib.hid hrx
                    have hs48 : w8.heap.size ≤ wr.heap.size := HU4.out.size
                    have hba9 : Below wr.heap.size wr (wr.alloc (.cells #[.slice Au (unitQ j st mk i).length cu] tII)) := (Below.refl _ _).alloc (Nat.le_refl _) _
                    have HN9 := Lib.hid (HN4.out.below hba9)
                    have HX9 := Lib.hid (HO4.out.alloc (.cells #[.slice Au (unitQ j st mk i).length cu] tII))
                    have HLOW := Lib.hid HN3.out.low
                    clear hrx hba9
                    go_wp2_with (at_builtin; refine wpList_append_rd _ rfl (.tmp 130) (.tmp 132) _ rfl w7.heap.size tII i2 _ 1 24 Try.underlying52 HI2.out HZ2.out HS2.out HY2.out rfl (by omega) _ _ _ rfl HN9.out.row _ 1 1 _ rfl HRX.out ?_ ?_ ?_ ?_)
                    · unfold maxLen; omega
                    · omega
                    · first | omega | (simp; omega)
                    intro v9 w9 hown9 hg9 hat9
                    obtain ⟨A9, c9, rfl⟩ := own_shape hown9
                    have HN10 := Lib.hid (HN9.out.push hown9 hg9 HX9.out h78 HLOW.out)
                    have HU9 := Lib.hid (show Below w7.heap.size w7 w9 from (HU5.out.alloc HU5.out.size (.cells #[.slice Au (unitQ j st mk i).length cu] tII)).grown hg9 (by simp; omega) (fun g hg => (HN9.out.row.lt g hg).1))
                    clear hown9 hg9 hat9
                    go_wp2
                    go_roundw
                    case rel => exact ⟨i + 1, _, by omega, by go_num, HU9.out, by rw [HOS2.out]; exact HN10.out⟩
                    case measure => simp [intOf]; omega
            · obtain rfl : i = t := by omega
              rw [HUE.out] at HN3 ⊢
              go_wp2
              go_ret
              have hq := HMKE.out
              subst hq
              exact ⟨_, _, _, rfl, ⟨ownT_more HN3.out.row h7, HN3.out.len, fun i x u hx hu => ownT_more (HN3.out.each i x u hx hu) h7, HN3.out.apart⟩, HU2.out.trans (HU3.out.mono h7)⟩
end Go.Proofs.Ytlkpbpecgdphaaa
