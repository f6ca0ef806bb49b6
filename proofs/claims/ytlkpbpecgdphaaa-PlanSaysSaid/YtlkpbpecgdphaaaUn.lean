/-
  PLAIN WORDS (no program): which stale groups belong together: the first index of a group's class, as two classes become one; the units.
-/
import Derived.Test.YtlkpbpecgdphaaaPg
import Derived.Test.YtlkpbpecgdphaaaTexts
import Derived.Test.YtlkpbpecgdphaaaGf
namespace Go.Proofs.Ytlkpbpecgdphaaa
open Go.RowKit

theorem outR_take {l : List F} {tg : List ByteArray} {k : Nat} {t : ByteArray} (h : tg[k]? = some t) : outR l (tg.take (k + 1)) = putF (outR l (tg.take k)) (t, textF l t) := by
  unfold outR
  rw [List.take_add_one, h, Option.toList_some, List.foldl_append]
  rfl
theorem outR_rises (l : List F) : ∀ (tg : List ByteArray), Rises (outR l tg) := fun tg => by
  unfold outR
  have key : ∀ (tg : List ByteArray) (o : List F), Rises o → Rises (tg.foldl (fun o t => putF o (t, textF l t)) o) := fun tg => by
    induction tg with
    | nil => exact fun _ h => h
    | cons t r ih => exact fun o h => ih _ (rises_put h _)
  exact key tg [] (List.Pairwise.nil)
theorem outR_len (l : List F) (tg : List ByteArray) : (outR l tg).length ≤ tg.length := by
  unfold outR
  have key : ∀ (tg : List ByteArray) (o : List F), Rises o → (tg.foldl (fun o t => putF o (t, textF l t)) o).length ≤ o.length + tg.length := fun tg => by
    induction tg with
    | nil => exact fun _ _ => Nat.le_refl _
    | cons t r ih =>
      intro o h
      have h1 := ih _ (rises_put h (t, textF l t))
      have h2 := len_put_le h (t, textF l t)
      rw [List.foldl_cons, List.length_cons]
      omega
  have := key tg [] (List.Pairwise.nil)
  simpa using this
def FrRel (w3 : World) (l : List F) (tg : List ByteArray) (n : Nat) (v i : Value) (wr : World) : Prop :=
  ∃ k : Nat, k ≤ n ∧ i = .int .i64 k ∧ (∀ t ∈ tg.take k, has l t = true) ∧ wr.ownsRow w3.heap.size tFi 2 v (outR l (tg.take k)).length (fcells (outR l (tg.take k))) ∧ Below w3.heap.size w3 wr
theorem cells4 {w : World} {b : Nat} {t : TypeId} {x y z u : Value} (h : Blk w b t #[x, y, z, u]) : w.cell? ⟨b, 0, none⟩ = some x ∧ w.cell? ⟨b, 1, none⟩ = some y ∧ w.cell? ⟨b, 2, none⟩ = some z ∧ w.cell? ⟨b, 3, none⟩ = some u := ⟨h.cell 0, h.cell 1, h.cell 2, h.cell 3⟩
set_option maxRecDepth 100000 in
set_option maxHeartbeats 8000000 in
theorem fresh_any (vk : Value) (N : Nat) (K : Kp) (At An Ac AL : Option Addr) (nt ct nn cn nc cc nL cL : Nat) (g : Gp) (l : List F) (w : World) (h : KpM w vk N K) (hF : FewK K) (ht : RdS w w.heap.size At nt ct g.tg) (hd : RdS w w.heap.size An nn cn g.nd) (hc : RdS w w.heap.size Ac nc cc g.cm) (hl : RdF w w.heap.size AL nL cL l) (hs : Rises l)
    (hsz : ∀ x ∈ g.tg, x.size ≤ maxLen) (b1 : nt ≤ 1000) (b2 : nn ≤ 1000) (b3 : nc ≤ 1000) (b4 : nL ≤ 1000) :
    Calls Try.prog 23 #[.agg #[.slice At nt ct, .slice An nn cn, .slice Ac nc cc, .bool g.ph], .slice AL nL cL, vk] w fun e w' => e = .returned (.bool (freshR K l g)) ∧ Below w.heap.size w w' := by
  have hba : Below w.heap.size w (w.alloc (.cells #[.slice At nt ct, .slice An nn cn, .slice Ac nc cc, .bool g.ph] tGr)) := (Below.refl _ w).alloc (Nat.le_refl _) _
  have pg := Blk.new w tGr #[.slice At nt ct, .slice An nn cn, .slice Ac nc cc, .bool g.ph]
  have HFD := Lib.hid (planFind_any vk N K At An Ac nt ct nn cn nc cc g.ph g.tg _ (h.below hba) hF (RdS.belowS ht hba) hsz)
  have HT := Lib.hid (RdS.belowS ht hba)
  have HD := Lib.hid (RdS.belowS hd hba)
  have HC := Lib.hid (RdS.belowS hc hba)
  have HL := Lib.hid (RdF.belowS hl hba)
  have HS := Lib.hid hs
  have HBA := Lib.hid hba
  have PG := Lib.hid pg
  have LT := Lib.hid ht.1
  obtain ⟨fr, hfr⟩ : ∃ fr, fr = freshR K l g := ⟨_, rfl⟩
  rw [← hfr]
  have HFR := Lib.hid hfr
  obtain ⟨a0, a1, a2, a3⟩ := cells4 pg
  generalize hph : g.ph = ph at *
  clear hph h hF ht hd hc hl hs hba pg hfr hsz
  go_enter Try.func23, Try.ntmps23
  go_wp2_with fail
  generalize w.alloc (.cells #[.slice At nt ct, .slice An nn cn, .slice Ac nc cc, .bool ph] tGr) = w1 at *
  refine HFD.out.mono ?_
  rintro e w2 ⟨u, rfl, hrv, hb2⟩
  obtain ⟨A0, n0, c0, A1, n1, c1, A2, n2, c2, rfl, r0, r1, r2⟩ := hrv
  have hba3 : Below w2.heap.size w2 (w2.alloc (.cells #[.slice A0 n0 c0, .slice A1 n1 c1, .slice A2 n2 c2] tRec)) := (Below.refl _ _).alloc (Nat.le_refl _) _
  have hb3 := hb2.trans (hba3.mono hb2.size)
  have pr := Blk.new w2 tRec #[.slice A0 n0 c0, .slice A1 n1 c1, .slice A2 n2 c2]
  have HR3 := Lib.hid (show RcV (w2.alloc (.cells #[.slice A0 n0 c0, .slice A1 n1 c1, .slice A2 n2 c2] tRec)) (.agg #[.slice A0 n0 c0, .slice A1 n1 c1, .slice A2 n2 c2]) ((recOfK K g.tg).getD noR) from ⟨_, _, _, _, _, _, _, _, _, rfl, r0.belowS hba3, r1.belowS hba3, r2.belowS hba3⟩)
  have PG3 := Lib.hid (PG.out.low hb3)
  have PR3 := Lib.hid pr
  have HT3 := Lib.hid (RdS.belowS HT.out hb3)
  have HD3 := Lib.hid (RdS.belowS HD.out hb3)
  have HC3 := Lib.hid (RdS.belowS HC.out hb3)
  have HL3 := Lib.hid (RdF.belowS HL.out hb3)
  have HB3 := Lib.hid (HBA.out.trans (hb3.mono HBA.out.size))
  clear hb2 hba3 pr r0 r1 r2 HT HD HC HL PG a0 a1 a2 a3 hb3
  cases hk : recOfK K g.tg with
  | none =>
    have hfr := HFR.out
    unfold freshR at hfr
    rw [hk] at hfr
    dsimp only at hfr
    subst hfr
    rw [show (none : Option Rcd).isSome = false from rfl]
    clear hk HFR
    go_wp2
    go_ret
    exact ⟨rfl, HB3.out⟩
  | some r =>
    rw [hk, show (some r).getD noR = r from rfl] at HR3
    have HFR2 := Lib.hid (show fr = (g.tg.all (has l) && decide (nowR l g = r)) from by
      have hfr := HFR.out
      unfold freshR at hfr
      rw [hk] at hfr
      exact hfr)
    rw [show (some r).isSome = true from rfl]
    clear hk HFR
    obtain ⟨g0, g1, g2, g3⟩ := cells4 PG3.out
    go_wp2
    generalize w2.alloc (.cells #[.slice A0 n0 c0, .slice A1 n1 c1, .slice A2 n2 c2] tRec) = w3 at *
    go_loopw [9, 25] (fun v i wr => FrRel w3 l g.tg nt v i wr) (fun _ i _ => nt - (intOf i).toNat)
    case atStart => exact ⟨0, Nat.zero_le _, by go_num, fun t h => by simp at h, World.ownsRow_nil _ _ _ _, Below.refl _ _⟩
    case round =>
      obtain ⟨k, hk, rfl, hall, hown, hb⟩ := hrel
      obtain ⟨Ao, co, rfl⟩ := own_shape hown
      have HALL := Lib.hid hall
      have HO := Lib.hid hown
      have HB := Lib.hid hb
      have HT4 := Lib.hid (RdS.belowS HT3.out hb)
      have HL4 := Lib.hid (RdF.belowS HL3.out hb)
      clear hall hown hb
      by_cases hlt : k < nt
      · obtain ⟨t, ht⟩ : ∃ t, g.tg[k]? = some t := ⟨_, List.getElem?_eq_getElem (by rw [LT.out]; exact hlt)⟩
        obtain ⟨b5, o5, rfl, _, ct5⟩ := HT4.out.at_ ht
        have hkz : (k : Int) < (nt : Int) := by omega
        have HTT := Lib.hid ht
        clear ht
        go_wp2_with fail
        refine (get_any AL nL cL l t wr HL4.out HS.out (by omega)).mono ?_
        rintro e w6 ⟨rfl, hb6⟩
        have HB6 := Lib.hid (HB.out.trans (hb6.mono HB.out.size))
        have ho6 := ownsRow_kept (w' := w6) HO.out (fun g hg => hb6.block g (HO.out.lt g hg).2)
        have HO6 := Lib.hid ho6
        clear hb6 ho6 HO HL4 HT4 ct5
        cases hh : has l t with
        | false =>
          have hfr := HFR2.out
          have hnot : g.tg.all (has l) = false := by
            rw [List.all_eq_false]
            exact ⟨t, List.mem_of_getElem? HTT.out, by rw [hh]; simp⟩
          rw [hnot, Bool.false_and] at hfr
          subst hfr
          clear hh hnot HFR2
          go_wp2
          go_ret
          exact ⟨rfl, HB3.out.trans (HB6.out.mono HB3.out.size)⟩
        | true =>
          have HHT := Lib.hid hh
          obtain ⟨A6, c6, e6, hr6⟩ := RdF.of_own HO6.out
          injection e6 with e6 _ e7
          subst e6 e7
          have HR6 := Lib.hid hr6
          have hol : (outR l (g.tg.take k)).length ≤ 900000 := by have := outR_len l (g.tg.take k); have h2 : (g.tg.take k).length ≤ k := List.length_take_le _ _; omega
          clear hh hr6
          go_wp2_with fail
          refine (put_any Ao _ co (outR l (g.tg.take k)) t (textF l t) w6 HR6.out (outR_rises _ _) hol).mono ?_
          rintro e w7 ⟨v7, rfl, ho7, hb7⟩
          have HO7 := Lib.hid (ownT_more ho7 (HB6.out.size))
          have HB7 := Lib.hid (HB6.out.trans (hb7.mono HB6.out.size))
          clear ho7 hb7
          go_wp2
          go_roundw
          case rel => exact ⟨k + 1, by omega, by go_num, fun x hx => by
            rw [List.take_add_one, HTT.out, Option.toList_some] at hx
            rcases List.mem_append.1 hx with h | h
            · exact HALL.out x h
            · rw [List.mem_singleton.1 h]; exact HHT.out, by rw [outR_take HTT.out]; exact HO7.out, HB7.out⟩
          case measure => simp [intOf]; omega
      · obtain rfl : k = nt := by omega
        have hlt0 := HB.out.size
        have hpg := PG3.out.low HB.out
        have hpr := PR3.out.low HB.out
        have HG4 := Lib.hid (cells4 hpg)
        have HR4 := Lib.hid (cells3 hpr)
        obtain ⟨i0, i1, i2, i3⟩ := cells4 hpg
        obtain ⟨j0, j1, j2⟩ := cells3 hpr
        obtain ⟨Ao', co', e6, hro⟩ := RdF.of_own HO.out
        injection e6 with e6 _ e7
        subst e6 e7
        rw [List.take_of_length_le (by rw [LT.out]; exact Nat.le_refl _)] at hro HALL
        have hol : (outR l g.tg).length ≤ 1000 := by have := outR_len l g.tg; rw [LT.out] at this; omega
        have hfr : fr = decide (nowR l g = r) := by
          rw [HFR2.out, List.all_eq_true.2 HALL.out, Bool.true_and]
        have HFE := Lib.hid hfr
        have HOF := Lib.hid (recOf_any At An Ac AL Ao k nn nc ct cn cc nL cL (outR l g.tg).length co ph g.tg g.nd g.cm l (outR l g.tg) wr.drew (RdS.belowS HD3.out HB.out.drew) (RdS.belowS HC3.out HB.out.drew) (RdF.belowS HL3.out HB.out.drew) hro HS.out b2 b3 b4 hol)
        have HRV := Lib.hid (HR3.out.low HB.out.drew)
        have HPG := Lib.hid hpg
        have HPR := Lib.hid hpr
        have HB4 := Lib.hid (HB3.out.trans (HB.out.mono HB3.out.size)).drew
        rw [List.take_of_length_le (by rw [LT.out]; exact Nat.le_refl _)]
        clear hro hol hfr HFR2 HALL HO HT3 HD3 HC3 HL3 HL4 HT4 g0 g1 g2 g3 HR3 PR3 PG3 hpg hpr HFD
        go_wp2_with fail
        go_region_held3 (fun w' => (w'.cell? ⟨w.heap.size, 0, none⟩ = some (.slice At k ct) ∧ w'.cell? ⟨w.heap.size, 1, none⟩ = some (.slice An nn cn) ∧ w'.cell? ⟨w.heap.size, 2, none⟩ = some (.slice Ac nc cc) ∧ w'.cell? ⟨w.heap.size, 3, none⟩ = some (.bool ph)) ∧ w'.cell? ⟨w2.heap.size, 0, none⟩ = some (.slice A0 n0 c0) ∧ w'.cell? ⟨w2.heap.size, 1, none⟩ = some (.slice A1 n1 c1) ∧ w'.cell? ⟨w2.heap.size, 2, none⟩ = some (.slice A2 n2 c2))
          (first | exact K8.out | exact K7.out | exact ⟨HG4.out, HR4.out⟩)
          (first
            | (go_at_call 46; refine HOF.out.mono ?_; rintro e w7 ⟨v7, rfl, hv7, hb7⟩; have HV7 := Lib.hid hv7; have HB7 := Lib.hid (HB4.out.trans (hb7.mono HB4.out.size)); have K7 := Lib.hid (⟨cells4 (HPG.out.drew.low hb7), cells3 (HPR.out.drew.low hb7)⟩ : (w7.cell? ⟨w.heap.size, 0, none⟩ = some (.slice At k ct) ∧ w7.cell? ⟨w.heap.size, 1, none⟩ = some (.slice An nn cn) ∧ w7.cell? ⟨w.heap.size, 2, none⟩ = some (.slice Ac nc cc) ∧ w7.cell? ⟨w.heap.size, 3, none⟩ = some (.bool ph)) ∧ w7.cell? ⟨w2.heap.size, 0, none⟩ = some (.slice A0 n0 c0) ∧ w7.cell? ⟨w2.heap.size, 1, none⟩ = some (.slice A1 n1 c1) ∧ w7.cell? ⟨w2.heap.size, 2, none⟩ = some (.slice A2 n2 c2)); have HR7 := Lib.hid (HRV.out.low hb7); have H7 := Lib.hid (HPG.out.drew.low hb7); have I7 := Lib.hid (HPR.out.drew.low hb7); clear hv7 hb7)
            | (go_at_call 45; refine (rcSame_V HV7.out HR7.out).mono ?_; rintro e w8 ⟨rfl, hb8⟩; have HB8 := Lib.hid (HB7.out.trans (hb8.mono HB7.out.size)); have K8 := Lib.hid (⟨cells4 (H7.out.low hb8), cells3 (I7.out.low hb8)⟩ : (w8.cell? ⟨w.heap.size, 0, none⟩ = some (.slice At k ct) ∧ w8.cell? ⟨w.heap.size, 1, none⟩ = some (.slice An nn cn) ∧ w8.cell? ⟨w.heap.size, 2, none⟩ = some (.slice Ac nc cc) ∧ w8.cell? ⟨w.heap.size, 3, none⟩ = some (.bool ph)) ∧ w8.cell? ⟨w2.heap.size, 0, none⟩ = some (.slice A0 n0 c0) ∧ w8.cell? ⟨w2.heap.size, 1, none⟩ = some (.slice A1 n1 c1) ∧ w8.cell? ⟨w2.heap.size, 2, none⟩ = some (.slice A2 n2 c2)); clear hb8))
        go_wp2
        go_ret
        exact ⟨by rw [HFE.out]; rfl, HB8.out⟩
end Go.Proofs.Ytlkpbpecgdphaaa
namespace Go.Proofs.Ytlkpbpecgdphaaa
open Go.RowKit

/-- Of each group the first index of its class: -1 for one that is not stale. -/
def clV (c : List Int) (i : Nat) : Int := c.getD i (-1)
def cl0 (n : Nat) (st : List Bool) : List Int := (List.range n).map fun (i : Nat) => if st.getD i false then (i : Int) else -1
def uniteR (c : List Int) (a b : Int) : List Int := c.map fun x => if x = a ∨ x = b then min a b else x
def clNeed (c : List Int) (i : Nat) (o : Option Nat) : List Int := match o with
  | none => c
  | some a => if clV c a ≠ -1 ∧ clV c i ≠ -1 then uniteR c (clV c i) (clV c a) else c
def clNeeds (c : List Int) (i : Nat) (os : List (Option Nat)) : List Int := os.foldl (fun c o => clNeed c i o) c
def clUpto (n : Nat) (st : List Bool) (M : Nat → List (Option Nat)) : Nat → List Int
  | 0 => cl0 n st
  | k + 1 => clNeeds (clUpto n st M k) k (M k)
/-- What holds of the classes on the way. -/
structure ClOk (n : Nat) (st : List Bool) (c : List Int) : Prop where
  len : c.length = n
  stale : ∀ (i : Nat), i < n → (clV c i = -1 ↔ st.getD i false = false)
  low : ∀ (i : Nat), i < n → clV c i ≠ -1 → ∃ r : Nat, clV c i = (r : Int) ∧ r ≤ i ∧ clV c r = (r : Int)
theorem clV_lt {c : List Int} {i : Nat} (h : i < c.length) : clV c i = c[i] := by simp [clV, h]
theorem clV_ge {c : List Int} {i : Nat} (h : c.length ≤ i) : clV c i = -1 := by simp [clV, h]
theorem cl0_v (n : Nat) (st : List Bool) (i : Nat) (h : i < n) : clV (cl0 n st) i = if st.getD i false then (i : Int) else -1 := by
  rw [clV_lt (by simpa [cl0] using h)]; simp [cl0]
theorem cl0_ok (n : Nat) (st : List Bool) : ClOk n st (cl0 n st) where
  len := by simp [cl0]
  stale := fun i h => by
    rw [cl0_v n st i h]
    cases st.getD i false <;> simp <;> omega
  low := fun i h hn => by
    rw [cl0_v n st i h] at hn ⊢
    cases hb : st.getD i false
    · rw [hb] at hn; simp at hn
    · exact ⟨i, by simp, Nat.le_refl _, by rw [cl0_v n st i h, hb]; rfl⟩
theorem uniteR_len (c : List Int) (a b : Int) : (uniteR c a b).length = c.length := by simp [uniteR]
theorem uniteR_v (c : List Int) (a b : Int) (i : Nat) (h : i < c.length) : clV (uniteR c a b) i = if clV c i = a ∨ clV c i = b then min a b else clV c i := by
  rw [clV_lt (by rw [uniteR_len]; exact h), clV_lt h]; simp [uniteR]
theorem clNeed_len (c : List Int) (i : Nat) (o : Option Nat) : (clNeed c i o).length = c.length := by
  cases o with
  | none => rfl
  | some a => simp only [clNeed]; split <;> simp [uniteR]
theorem uniteR_ok {n : Nat} {st : List Bool} {c : List Int} (h : ClOk n st c) {i a : Nat} (hi : i < n) (ha : a < n) (h1 : clV c i ≠ -1) (h2 : clV c a ≠ -1) : ClOk n st (uniteR c (clV c i) (clV c a)) := by
  obtain ⟨r, hr, hri, hrr⟩ := h.low i hi h1
  obtain ⟨s, hs, hsa, hss⟩ := h.low a ha h2
  have hrn : r < n := by omega
  have hsn : s < n := by omega
  rw [hr, hs]
  have hm : min (r : Int) (s : Int) = ((min r s : Nat) : Int) := by omega
  have V : ∀ j : Nat, j < n → clV (uniteR c r s) j = if clV c j = r ∨ clV c j = s then ((min r s : Nat) : Int) else clV c j := fun j hj => by
    rw [uniteR_v c r s j (by rw [h.len]; exact hj), hm]
  refine ⟨by rw [uniteR_len]; exact h.len, fun j hj => ?_, fun j hj hn => ?_⟩
  · rw [V j hj, ← h.stale j hj]
    split
    · rename_i hc; constructor
      · intro; omega
      · intro e; rcases hc with hc | hc <;> omega
    · exact Iff.rfl
  · rw [V j hj] at hn ⊢
    by_cases hc : clV c j = r ∨ clV c j = s
    · rw [if_pos hc]
      have hcj : clV c j ≠ -1 := by rcases hc with hc | hc <;> omega
      obtain ⟨t, ht, htj, _⟩ := h.low j hj hcj
      have hle : min r s ≤ t := by rcases hc with hc | hc <;> omega
      refine ⟨min r s, rfl, by omega, ?_⟩
      rw [V (min r s) (by omega)]
      rw [if_pos]
      rcases Nat.le_total r s with hx | hx
      · rw [Nat.min_eq_left hx]; exact Or.inl hrr
      · rw [Nat.min_eq_right hx]; exact Or.inr hss
    · rw [if_neg hc] at hn ⊢
      obtain ⟨t, ht, htj, htt⟩ := h.low j hj hn
      refine ⟨t, ht, htj, ?_⟩
      rw [V t (by omega), htt, if_neg (by rw [← ht]; exact hc)]
theorem clNeed_ok {n : Nat} {st : List Bool} {c : List Int} (h : ClOk n st c) {i : Nat} (hi : i < n) {o : Option Nat} (ho : ∀ a, o = some a → a < n) : ClOk n st (clNeed c i o) := by
  cases o with
  | none => exact h
  | some a =>
    simp only [clNeed]; split
    · rename_i hc; exact uniteR_ok h hi (ho a rfl) hc.2 hc.1
    · exact h
/-- Two that belong together stay so. -/
theorem clNeed_eq {c : List Int} {i : Nat} {o : Option Nat} {x y : Nat} (hx : x < c.length) (hy : y < c.length) (h : clV c x = clV c y) : clV (clNeed c i o) x = clV (clNeed c i o) y := by
  cases o with
  | none => exact h
  | some a =>
    simp only [clNeed]; split
    · rw [uniteR_v c _ _ x hx, uniteR_v c _ _ y hy, h]
    · exact h
theorem clNeed_joins {n : Nat} {st : List Bool} {c : List Int} (h : ClOk n st c) {i a : Nat} (hi : i < n) (ha : a < n) (hs : st.getD i false = true) (hsa : st.getD a false = true) : clV (clNeed c i (some a)) i = clV (clNeed c i (some a)) a := by
  have h1 : clV c i ≠ -1 := fun e => by have := (h.stale i hi).1 e; rw [hs] at this; cases this
  have h2 : clV c a ≠ -1 := fun e => by have := (h.stale a ha).1 e; rw [hsa] at this; cases this
  simp only [clNeed]; rw [if_pos ⟨h2, h1⟩, uniteR_v c _ _ i (by rw [h.len]; exact hi), uniteR_v c _ _ a (by rw [h.len]; exact ha), if_pos (Or.inl rfl), if_pos (Or.inr rfl)]
theorem clNeeds_ok {n : Nat} {st : List Bool} {i : Nat} (hi : i < n) : ∀ (os : List (Option Nat)) (c : List Int), ClOk n st c → (∀ o ∈ os, ∀ a, o = some a → a < n) → ClOk n st (clNeeds c i os)
  | [], _, h, _ => h
  | o :: os, c, h, ho => clNeeds_ok hi os (clNeed c i o) (clNeed_ok h hi (ho o (List.mem_cons_self ..))) fun o' m => ho o' (List.mem_cons_of_mem _ m)
theorem clNeeds_len {i : Nat} : ∀ (os : List (Option Nat)) (c : List Int), (clNeeds c i os).length = c.length
  | [], _ => rfl
  | o :: os, c => (clNeeds_len os (clNeed c i o)).trans (clNeed_len c i o)
theorem clNeeds_eq {i x y : Nat} : ∀ (os : List (Option Nat)) (c : List Int), x < c.length → y < c.length → clV c x = clV c y → clV (clNeeds c i os) x = clV (clNeeds c i os) y
  | [], _, _, _, h => h
  | o :: os, c, hx, hy, h => clNeeds_eq os (clNeed c i o) (by rw [clNeed_len]; exact hx) (by rw [clNeed_len]; exact hy) (clNeed_eq hx hy h)
theorem clNeeds_joins {n : Nat} {st : List Bool} {i a : Nat} (hi : i < n) (ha : a < n) (hs : st.getD i false = true) (hsa : st.getD a false = true) : ∀ (os : List (Option Nat)) (c : List Int), ClOk n st c → (∀ o ∈ os, ∀ a, o = some a → a < n) → some a ∈ os → clV (clNeeds c i os) i = clV (clNeeds c i os) a
  | [], _, _, _, hm => by cases hm
  | o :: os, c, h, ho, hm => by
    have h' : ClOk n st (clNeed c i o) := clNeed_ok h hi (ho o (List.mem_cons_self ..))
    rcases List.mem_cons.1 hm with e | hm'
    · subst e
      exact clNeeds_eq os _ (by rw [h'.len]; exact hi) (by rw [h'.len]; exact ha) (clNeed_joins h hi ha hs hsa)
    · exact clNeeds_joins hi ha hs hsa os _ h' (fun o' m => ho o' (List.mem_cons_of_mem _ m)) hm'
theorem clUpto_ok {n : Nat} {st : List Bool} {M : Nat → List (Option Nat)} (hM : ∀ i, i < n → ∀ o ∈ M i, ∀ a, o = some a → a < n) : ∀ (k : Nat), k ≤ n → ClOk n st (clUpto n st M k)
  | 0, _ => cl0_ok n st
  | k + 1, hk => clNeeds_ok (by omega) (M k) _ (clUpto_ok hM k (by omega)) (hM k (by omega))
theorem clUpto_joins {n : Nat} {st : List Bool} {M : Nat → List (Option Nat)} (hM : ∀ i, i < n → ∀ o ∈ M i, ∀ a, o = some a → a < n) {i a : Nat} (ha : a < n) (hs : st.getD i false = true) (hsa : st.getD a false = true) (hm : some a ∈ M i) : ∀ (k : Nat), k ≤ n → i < k → clV (clUpto n st M k) i = clV (clUpto n st M k) a
  | 0, _, h => absurd h (by omega)
  | k + 1, hk, h => by
    have hk' := clUpto_ok (st := st) hM k (by omega)
    rcases Nat.lt_or_ge i k with hl | hl
    · exact clNeeds_eq (M k) _ (by rw [hk'.len]; omega) (by rw [hk'.len]; exact ha) (clUpto_joins hM ha hs hsa hm k (by omega) hl)
    · have e : i = k := by omega
      subst e
      exact clNeeds_joins (by omega) ha hs hsa (M i) _ hk' (hM i (by omega)) hm
end Go.Proofs.Ytlkpbpecgdphaaa
