/-
  WALK: plan.Units.
-/
import Derived.Test.YtlkpbpecgdphaaaUe
namespace Go.Proofs.Ytlkpbpecgdphaaa
open Go.RowKit

set_option maxRecDepth 100000 in
set_option maxHeartbeats 1000000 in
theorem deleteU_nil (X : Nat) (w : World) : Calls Try.prog 33 #[.slice none 0 0, unF X] w fun e w' => e = .returned (.slice none 0 0) ∧ Below w.heap.size w w' := by
  have hc : Calls Try.prog 53 #[.slice none 0 0, unF X] w fun e w' => e = .returned (.int .i64 (-1)) ∧ Below w.heap.size w w' := by
    go_enter Try.func53, Try.ntmps53
    go_wp2
    go_loopw [8] (fun i wr => i = .int .i64 0 ∧ wr = w) (fun _ _ => 0)
    case atStart => exact ⟨rfl, rfl⟩
    case round =>
      obtain ⟨rfl, rfl⟩ := hrel
      go_wp2
      go_ret
      exact ⟨rfl, Below.refl _ _⟩
  have HC := Lib.hid hc
  clear hc
  go_enter Try.func33, Try.ntmps33
  go_wp2_with fail
  refine HC.out.mono ?_
  rintro e w1 ⟨rfl, hb1⟩
  have HB1 := Lib.hid hb1
  clear hb1
  go_wp2
  go_ret
  exact ⟨rfl, HB1.out⟩
theorem keepZ_snd {p : List Nat → Bool} {V : List Value} {U : List (List Nat)} (h : V.length = U.length) : (keepZ p (V.zip U)).map (·.2) = U.filter p := by
  have e : (V.zip U).map (·.2) = U := List.map_snd_zip (by omega)
  unfold keepZ
  conv => rhs; rw [← e, List.filter_map]
  rfl
theorem zip_at {V : List Value} {U : List (List Nat)} {x : Value × List Nat} (h : x ∈ V.zip U) : ∃ j : Nat, V[j]? = some x.1 ∧ U[j]? = some x.2 := by
  obtain ⟨j, hj⟩ := List.getElem?_of_mem h
  rw [List.getElem?_zip_eq_some] at hj
  exact ⟨j, hj⟩
theorem UnOwn.keep {w w' : World} {B g c : Nat} {U : List (List Nat)} {V : List Value} {p : List Nat → Bool} (h : UnOwn w B (.slice (some ⟨g, 0, none⟩) U.length c) U V) (hc : c ≤ maxLen) (hUc : U.length ≤ c) (hD : DuOk w w' g c (keepZ p (V.zip U))) :
    UnOwn w' B (.slice (some ⟨g, 0, none⟩) (keepZ p (V.zip U)).length c) ((keepZ p (V.zip U)).map (·.2)) ((keepZ p (V.zip U)).map (·.1)) := by
  obtain ⟨cs, h1, h2, h3⟩ := hD.blk
  have hgB := (h.row.lt g rfl).1
  have hle : (keepZ p (V.zip U)).length ≤ c := Nat.le_trans (List.length_filter_le _ _) (by rw [List.length_zip, h.len]; omega)
  have hmem : ∀ (i : Nat) (x : Value × List Nat), (keepZ p (V.zip U))[i]? = some x → ∃ j : Nat, V[j]? = some x.1 ∧ U[j]? = some x.2 := fun i x hx => zip_at (List.mem_filter.1 (List.mem_of_getElem? hx)).1
  have hpw : (V.zip U).Pairwise fun x y => ∀ g, x.1.ownBlock = some g → y.1.ownBlock ≠ some g := by
    refine List.pairwise_iff_getElem.2 fun i j hi hj hij g hx hy => ?_
    have e1 := List.getElem?_eq_getElem hi
    have e2 := List.getElem?_eq_getElem hj
    rw [List.getElem?_zip_eq_some] at e1 e2
    have := h.apart i j g _ _ e1.1 e2.1 hx hy
    omega
  have hpk : (keepZ p (V.zip U)).Pairwise fun x y => ∀ g, x.1.ownBlock = some g → y.1.ownBlock ≠ some g := hpw.filter (fun x : Value × List Nat => p x.2)
  refine ⟨⟨by simp, .inr ⟨g, c, cs, by simp, hgB, h1, by simpa using hle, hc, by rw [h2, Nat.mul_one], ?_⟩⟩, by simp, fun i y u hy hu => ?_, fun i j g' y z hy hz gy gz => ?_⟩
  · refine List.ext_getElem? fun j => ?_
    rw [List.getElem?_take, List.length_map, Nat.mul_one, Array.getElem?_toList, List.getElem?_map]
    split
    · rename_i hj
      rw [List.getElem?_eq_getElem hj]
      exact h3 j _ (List.getElem?_eq_getElem hj)
    · rename_i hj
      rw [List.getElem?_eq_none (by omega)]; rfl
  · rw [List.getElem?_map] at hy hu
    cases hx : (keepZ p (V.zip U))[i]? with
    | none => rw [hx] at hy; cases hy
    | some x =>
      rw [hx] at hy hu
      injection hy with hy
      injection hu with hu
      subst hy hu
      obtain ⟨j, hv, hu⟩ := hmem i x hx
      have ho := h.each j _ _ hv hu
      exact own_upd ho hD.upd (fun e => rows_apart ho h.row (by decide) g e rfl)
  · rw [List.getElem?_map] at hy hz
    cases hx : (keepZ p (V.zip U))[i]? with
    | none => rw [hx] at hy; cases hy
    | some x =>
      cases hx2 : (keepZ p (V.zip U))[j]? with
      | none => rw [hx2] at hz; cases hz
      | some x2 =>
        rw [hx] at hy
        rw [hx2] at hz
        injection hy with hy
        injection hz with hz
        subst hy hz
        obtain ⟨hi, ei⟩ := List.getElem?_eq_some_iff.1 hx
        obtain ⟨hj, ej⟩ := List.getElem?_eq_some_iff.1 hx2
        have hp := List.pairwise_iff_getElem.1 hpk
        rcases Nat.lt_trichotomy i j with q | q | q
        · have h9 := hp i j hi hj q g' (by rw [ei]; exact gy)
          rw [ej] at h9
          exact absurd gz h9
        · exact q
        · have h9 := hp j i hj hi q g' (by rw [ej]; exact gz)
          rw [ei] at h9
          exact absurd gy h9
theorem rdx_own {w : World} {B c : Nat} {A : Option Addr} {u : List Nat} (h : w.ownsRow B tI 1 (.slice A u.length c) u.length (ints u)) : RdX w 1 A u.length (ints u) := by
  refine ⟨by simp [ints], fun v hv => ?_, fun h0 => ?_⟩
  · obtain ⟨i, _, rfl⟩ := List.mem_map.1 hv; rfl
  · obtain ⟨g, cap, e, _, _⟩ := h.form h0
    injection e with e e2 e3
    subst e e3
    exact ⟨g, 0, rfl, fun j v hv => by rw [Nat.zero_add, h.cellAt j (by have := (List.getElem?_eq_some_iff.1 hv).1; simp [ints] at this; omega)]; exact hv⟩
end Go.Proofs.Ytlkpbpecgdphaaa
namespace Go.Proofs.Ytlkpbpecgdphaaa
open Go.RowKit

theorem int_parts : ∃ i, Try.prog.info? tI = some i ∧ i.zero = some (.int .i64 0) ∧ i.size = 1 ∧ i.bytes = 8 := by
  have h : (Try.prog.info? tI).map (fun i => (i.zero, i.size, i.bytes)) = some (some (.int .i64 0), 1, 8) := by kernel_rfl
  cases e : Try.prog.info? tI with
  | none => rw [e] at h; cases h
  | some i =>
    rw [e] at h
    simp only [Option.map_some, Option.some.injEq, Prod.mk.injEq] at h
    exact ⟨i, rfl, h.1, h.2.1, h.2.2⟩
theorem row_parts : ∃ i, Try.prog.info? tII = some i ∧ i.zero = some (.slice none 0 0) ∧ i.size = 1 ∧ i.bytes = 24 := by
  have h : (Try.prog.info? tII).map (fun i => (i.zero, i.size, i.bytes)) = some (some (.slice none 0 0), 1, 24) := by kernel_rfl
  cases e : Try.prog.info? tII with
  | none => rw [e] at h; cases h
  | some i =>
    rw [e] at h
    simp only [Option.map_some, Option.some.injEq, Prod.mk.injEq] at h
    exact ⟨i, rfl, h.1, h.2.1, h.2.2⟩
theorem rdx_nil (w : World) : RdX (w.alloc (.cells #[.slice none 0 0] tII)) 1 (some ⟨w.heap.size, 0, none⟩) 1 [.slice none 0 0] := RdX.new w 1 #[.slice none 0 0] tII rfl (by intro u hu; simp at hu; subst hu; rfl)
theorem WhOk.mono {w : World} {bm n n' k : Nat} {c : List Int} (h : WhOk w bm n c k) (hn : n ≤ n') : WhOk w bm n' c k := by
  obtain ⟨D, ho, hh⟩ := h
  exact ⟨D, ho.mono hn, hh⟩
theorem UnOwn.ub {w : World} {B : Nat} {v : Value} {U : List (List Nat)} {V : List Value} (h : UnOwn w B v U V) : ∃ A c, v = .slice A U.length c := own_shape h.row
theorem WhOk.setCell {w : World} {bm n k : Nat} {c : List Int} (h : WhOk w bm n c k) {a : Addr} (ha : bm ≠ a.block) (u : Value) : WhOk (w.setCell a u) bm n c k := by
  obtain ⟨D, ho, hh⟩ := h
  exact ⟨D, ho.setCell ha u, hh⟩
def UdRel (w3 : World) (bm n : Nat) (c : List Int) (v i : Value) (wr : World) : Prop :=
  ∃ (k : Nat) (V : List Value), k ≤ n ∧ i = .int .i64 k ∧ Upd w3 wr (One bm) ∧ WhOk wr bm k c k ∧ UnOwn wr w3.heap.size v (unitsR c k) V
set_option maxHeartbeats 4000000 in
set_option maxRecDepth 100000 in
theorem units_any (w : World) (A B : Option Addr) (n c m cb : Nat) (out : List Gp) (R : List Row4) (st : List Bool) (h : GpRd w A n c out R) (hs : RdX w 1 B m (bcells st)) (hn : n ≤ 10000) (hm : m ≤ 100000) (ht : ∀ g ∈ out, g.tg.length ≤ 1000) :
    Calls Try.prog 15 #[.slice A n c, .slice B m cb] w fun e w' => ∃ A' c' V, e = .returned (.slice A' (unitsF (clUpto n st (mkM out) n) n (phV out)).length c') ∧ UnOwn w' w.heap.size (.slice A' (unitsF (clUpto n st (mkM out) n) n (phV out)).length c') (unitsF (clUpto n st (mkM out) n) n (phV out)) V ∧ Below w.heap.size w w' := by
  have hba : Below w.heap.size w ((w.alloc (.cells #[.slice A n c] 39)).alloc (.map #[] 0)) := ((Below.refl _ _).alloc (Nat.le_refl _) _).alloc (by simp) _
  have hwh := WhOk.made (w.alloc (.cells #[.slice A n c] 39)) (clUpto n st (mkM out) n)
  have hbx := (Blk.new w 39 #[.slice A n c]).alloc (.map #[] 0)
  have hs2 : RdX ((w.alloc (.cells #[.slice A n c] 39)).alloc (.map #[] 0)) 1 B m (bcells st) := ⟨hs.1, hs.2.1, fun h0 => by
    obtain ⟨b, off, e, hc⟩ := hs.2.2 h0
    exact ⟨b, off, e, fun j v hv => (hba.cell (p := ⟨b, off + j, none⟩) (cell_block_lt (hc j v hv))).trans (hc j v hv)⟩⟩
  have HCL := Lib.hid (classes_any _ A B n c m cb out R st (h.belowS hba) hs2 hn hm ht)
  have hcok : ClOk n st (clUpto n st (mkM out) n) := clUpto_ok (fun i hi o ho a e => by
    unfold mkM at ho
    split at ho
    · obtain ⟨t, _, rfl⟩ := List.mem_map.1 ho
      rw [← h.len]; exact makerO_lt e
    · cases ho) n (Nat.le_refl _)
  have hbm : (w.alloc (.cells #[.slice A n c] 39)).heap.size = w.heap.size + 1 := by simp
  have hsz : ((w.alloc (.cells #[.slice A n c] 39)).alloc (.map #[] 0)).heap.size = w.heap.size + 2 := by simp
  rw [hbm] at hwh
  have c0 := hbx.cell 0
  have HG := Lib.hid (h.belowS hba)
  have HGW := Lib.hid h
  have HBX := Lib.hid hbx
  have HBA := Lib.hid hba
  have HWH := Lib.hid hwh
  have HSZ := Lib.hid hsz
  revert HCL hcok HWH
  generalize clUpto n st (mkM out) n = cl
  intro HCL hcok HWH
  have HK := Lib.hid hcok
  clear h hs hs2 hba hwh hbx hcok hsz hbm
  obtain ⟨i1, hi1, hz1, hsi1, hby1⟩ := int_parts
  obtain ⟨i2, hi2, hz2, hsi2, hby2⟩ := row_parts
  have HI1 := Lib.hid hi1
  have HZ1 := Lib.hid hz1
  have HS1 := Lib.hid hsi1
  have HY1 := Lib.hid hby1
  have HI2 := Lib.hid hi2
  have HZ2 := Lib.hid hz2
  have HS2 := Lib.hid hsi2
  have HY2 := Lib.hid hby2
  clear hi1 hz1 hsi1 hby1 hi2 hz2 hsi2 hby2
  have hmm := @run_makeMap Try.prog
  go_enter Try.func15, Try.ntmps15
  go_wp2_with fail
  generalize (w.alloc (.cells #[.slice A n c] 39)).alloc (.map #[] 0) = w2 at *
  clear c0
  refine HCL.out.mono ?_
  rintro e w3 ⟨gc, rfl, hgc, hb3, hcl⟩
  have hgl := hcl.lt
  have hs23 := hb3.size
  have HW3 := Lib.hid (HWH.out.below hb3)
  have HC3 := Lib.hid hcl
  have HB3 := Lib.hid (HBA.out.trans (hb3.mono HBA.out.size))
  have HG3 := Lib.hid (HG.out.belowS hb3)
  have HX3 := Lib.hid (show Blk w3 w.heap.size 39 #[.slice A n c] from (hb3.block _ HBX.out.lt).trans HBX.out)
  have h2 := HSZ.out
  have HWB := Lib.hid (show w.heap.size + 1 < w3.heap.size by omega)
  clear hb3 hcl HCL HWH HG HBX HBA
  go_wp2
  go_loopw [5, 15] (fun v i wr => UdRel w3 (w.heap.size + 1) n cl v i wr) (fun _ i _ => n - (intOf i).toNat)
  case atStart => exact ⟨0, [], Nat.zero_le _, by go_num, Upd.refl _ _, HW3.out, UnOwn.empty _ _⟩
  case round =>
    obtain ⟨k, V, hk, rfl, hu, hwo, hun⟩ := hrel
    obtain ⟨Av, cv, rfl⟩ := hun.ub
    have HU := Lib.hid hu
    have HW := Lib.hid hwo
    have HN := Lib.hid hun
    have HCr := Lib.hid (show Blk wr gc tI (icells cl) from HC3.out.upd hu (by show ¬ gc = w.heap.size + 1; omega))
    clear hu hwo hun
    by_cases hlt : k < n
    · have hkz : (k : Int) < (n : Int) := by omega
      have ck : wr.cell? ⟨gc, k, none⟩ = some (.int .i64 (clV cl k)) := by rw [HCr.out.cell, icells_at _ _ (by rw [HK.out.len]; exact hlt)]
      have HUL := Lib.hid (unitsR_len cl k)
      have hrl : (unitsR cl k).length ≤ k := by rw [HUL.out]; exact Nat.le_trans (List.length_filter_le _ _) (by simp)
      by_cases h1 : clV cl k = -1
      · have HSK := Lib.hid (unitsR_skip h1)
        have HWK := Lib.hid ((HW.out.skip (by rw [h1]; omega)).mono (Nat.le_succ k))
        rw [h1] at ck
        clear h1
        go_wp2
        go_roundw
        case rel => exact ⟨k + 1, V, by omega, by go_num, HU.out, HWK.out, by rw [HSK.out]; exact HN.out⟩
        case measure => simp [intOf]; omega
      · have b1 : (clV cl k == -1) = false := by simpa using h1
        by_cases h3 : clV cl k = (k : Int)
        · have HNW := Lib.hid (unitsR_new HK.out hlt h3)
          have H3 := Lib.hid h3
          obtain ⟨w4, hrun, hw4, hg4⟩ := HW.out.store (by omega) (by omega)
          rw [← HUL.out] at hrun
          rw [h3] at ck b1
          have hun4 := HN.out.mapped HW.out.block hg4
          have hu4 : Upd w3 w4 (One (w.heap.size + 1)) := HU.out.two ⟨hg4.os, hg4.tape, hg4.output, hg4.size, fun j hj hn => hg4.block j hj (fun e => hn (by injection e))⟩
          have HW4 := Lib.hid hw4
          have HN4 := Lib.hid hun4
          have HU4 := Lib.hid hu4
          clear h1 h3 hun4 hu4 hw4 hg4
          have hb45 : Below w4.heap.size w4 (w4.alloc (.cells #[.slice none 0 0] tII)) := (Below.refl _ _).alloc (Nat.le_refl _) _
          have HB45 := Lib.hid hb45
          have hs35 : w3.heap.size ≤ w4.heap.size := HU4.out.size
          clear hb45
          go_wp2_with (at_builtin; refine wpList_append_rd _ rfl (.tmp 29) (.tmp 30) _ rfl w3.heap.size tII i2 _ 1 24 Try.underlying52 HI2.out HZ2.out HS2.out HY2.out rfl (by omega) _ _ _ rfl (HN4.out.row.alloc (.cells #[.slice none 0 0] tII)) _ 1 1 _ rfl (rdx_nil w4) ?_ ?_ ?_ ?_)
          · unfold maxLen; omega
          · omega
          · first | omega | (simp; omega)
          intro v6 w6 hown6 hg6 hat6
          obtain ⟨g6, c6, rfl, _, _⟩ := hown6.form (by omega)
          have hnew := (HN4.out.below HB45.out).new hown6 hg6
          have hw6 := ((HW4.out.below HB45.out).kept hg6 (fun e => by
            have h9 := HWB.out
            have h8 := (HN4.out.row.lt (w.heap.size + 1) (by rw [← e])).1
            omega))
          have hu6 : Upd w3 w6 (One (w.heap.size + 1)) := by
            have h7 := HU4.out.alloc (.cells #[.slice none 0 0] tII)
            exact ⟨hg6.os.trans h7.os, hg6.tape.trans h7.tape, hg6.output.trans h7.output, Nat.le_trans h7.size hg6.size, fun j hj hn => (hg6.block j (Nat.lt_of_lt_of_le hj h7.size) (fun e => by have := (HN4.out.row.lt j e.symm).1; omega)).trans (h7.block j hj hn)⟩
          have hlk := hw6.look k (by omega) H3.out (by omega)
          rw [← HUL.out] at hlk
          obtain ⟨a, ha⟩ : ∃ a, a = (unitsR cl k).length := ⟨_, rfl⟩
          obtain ⟨u, hu⟩ : ∃ u, u = ([] : List Nat) := ⟨_, rfl⟩
          have HE := Lib.hid (show (unitsR cl k ++ [[]]).set a (u ++ [k]) = unitsR cl (k + 1) from by rw [hu, HNW.out, ha, List.set_append_right _ _ (Nat.le_refl _)]; simp)
          have hux : (unitsR cl k ++ [[]])[a]? = some u := by rw [hu, ha, List.getElem?_append_right (Nat.le_refl _)]; simp
          have hvx : (V ++ [.slice none 0 0])[a]? = some (.slice none 0 0) := by rw [ha, ← HN4.out.len, List.getElem?_append_right (Nat.le_refl _)]; simp
          obtain ⟨U1, hU1⟩ : ∃ U1, U1 = unitsR cl k ++ [[]] := ⟨_, rfl⟩
          obtain ⟨V1, hV1⟩ : ∃ V1, V1 = V ++ [Value.slice none 0 0] := ⟨_, rfl⟩
          have HNN := Lib.hid (show U1.length = a + 1 by rw [hU1, ha]; simp)
          rw [← hU1] at HE hux hnew
          rw [← hV1] at hvx hnew
          rw [← ha] at hlk hnew hrl ⊢
          clear hU1 hV1
          have HNX := Lib.hid hnew
          have HWX := Lib.hid hw6
          have HUX := Lib.hid hu6
          have haN : (a : Int) < ((a + 1 : Nat) : Int) := by omega
          have haN2 : (a : Int) < (a : Int) + 1 := by omega
          clear hnew hw6 hu6 hown6 hg6 hat6 HN4 HW4 HU4 HB45 hs35 hrun ha
          obtain ⟨wX, hwX⟩ : ∃ wX, wX = w6 := ⟨_, rfl⟩
          subst hwX
          obtain ⟨x, hx⟩ : ∃ x, x = Value.slice none 0 0 := ⟨_, rfl⟩
          rw [← hx] at hvx
          have hulen : u.length ≤ 10000 := by rw [hu]; simp
          clear hx hu
          obtain ⟨Ax, cx, rfl⟩ := own_shape (HNX.out.each a x u hvx hux)
          have hrwX := HNX.out.row
          try rw [HNN.out] at hrwX
          have cx1 : wX.cell? ⟨g6, a, none⟩ = some (.slice Ax u.length cx) := by rw [hrwX.cellAt a (by have := (List.getElem?_eq_some_iff.1 hux).1; omega)]; exact hvx
          have HVX := Lib.hid hvx
          have HXX := Lib.hid hux
          have HN7 := Lib.hid (HNX.out.below (w' := wX.alloc (.cells #[.int .i64 (k : Int)] tI)) ((Below.refl _ _).alloc (Nat.le_refl _) _))
          have HW7 := Lib.hid (HWX.out.below (w' := wX.alloc (.cells #[.int .i64 (k : Int)] tI)) ((Below.refl _ _).alloc (Nat.le_refl _) _))
          have HU7 := Lib.hid (HUX.out.alloc (.cells #[.int .i64 (k : Int)] tI))
          have hsX : w3.heap.size ≤ wX.heap.size := HUX.out.size
          have HOX := Lib.hid (HN7.out.each a _ u hvx hux)
          clear hvx hux hrwX HNX HWX HUX
          go_wp2_with (at_builtin; refine wpList_append_rd _ rfl (.tmp 40) (.tmp 42) _ rfl w3.heap.size tI i1 _ 1 8 Try.underlying55 HI1.out HZ1.out HS1.out HY1.out rfl (by omega) _ _ _ rfl HOX.out _ 1 1 _ rfl (rdx_int wX k) ?_ ?_ ?_ ?_)
          · unfold maxLen; omega
          · omega
          · first | omega | (simp; omega)
          intro v8 w8 hown8 hg8 hat8
          obtain ⟨A8, c8, rfl⟩ := own_shape hown8
          have hrow8 := HN7.out.row.kept hg8 (.inr fun e => rows_apart HN7.out.row HOX.out (by decide) g6 rfl e.symm)
          try rw [HNN.out] at hrow8
          have c8a : ∃ y, w8.cell? ⟨g6, a, none⟩ = some y := ⟨_, (hrow8.cellAt a (by have := (List.getElem?_eq_some_iff.1 HXX.out).1; omega)).trans HVX.out⟩
          obtain ⟨y8, c8a⟩ := c8a
          have z8a : w8.frozen? ⟨g6, a, none⟩ = false := hrow8.frozenAt a
          have hg6B : w3.heap.size ≤ g6 := (hrow8.lt g6 rfl).1
          have HN9 := Lib.hid (HN7.out.more (i := k) HVX.out HXX.out (fun _ => trivial) hown8 hg8 (hat8.imp id (fun e => ⟨_, by simp, e⟩)) (by first | rfl | rw [HNN.out]))
          rw [HE.out] at HN9
          have hmapX : ∀ j, (Value.slice Ax u.length cx).ownBlock = some j → w.heap.size + 1 ≠ j := fun j hj e => by have h9 := HW7.out.lt; have h8 := HOX.out.lt j hj; have h7 := HWB.out; omega
          have HW9 := Lib.hid ((HW7.out.kept hg8 (fun e => hmapX _ e.symm rfl)).setCell (a := ⟨g6, a, none⟩) (by show w.heap.size + 1 ≠ g6; have h7 := HWB.out; omega) (.slice A8 (u.length + 1) c8))
          have HU9 := Lib.hid ((show Upd w3 w8 (One (w.heap.size + 1)) from ⟨hg8.os.trans HU7.out.os, hg8.tape.trans HU7.out.tape, hg8.output.trans HU7.out.output, Nat.le_trans HU7.out.size hg8.size, fun j hj hn => (hg8.block j (Nat.lt_of_lt_of_le hj HU7.out.size) (fun e => by have := (HOX.out.lt j e.symm).1; omega)).trans (HU7.out.block j hj hn)⟩).set (b := g6) (i := a) (.inl hg6B) (.slice A8 (u.length + 1) c8))
          clear hown8 hg8 hat8 hrow8 hmapX HN7 HW7 HU7 HOX cx1
          go_wp2
          go_roundw
          case rel => exact ⟨k + 1, _, by omega, by go_num, HU9.out, HW9.out, HN9.out⟩
          case measure => simp [intOf]; omega
        · have H3 := Lib.hid h3
          obtain ⟨r, hr, hrk, hrr⟩ := HK.out.low k hlt h1
          have hne : r ≠ k := fun e => h3 (by rw [hr, e])
          obtain ⟨-, -, u, hux, hset⟩ := unitsR_more HK.out hlt hr hne
          have HE := Lib.hid hset.symm
          rw [hr] at ck b1
          have b3 : ((r : Int) == (k : Int)) = false := by rw [beq_eq_false_iff_ne]; omega
          have hlk := HW.out.look r (by omega) hrr (by omega)
          obtain ⟨a, ha⟩ : ∃ a, a = (reps cl r).length := ⟨_, rfl⟩
          rw [← ha] at hlk hux HE
          have HWX := Lib.hid ((HW.out.skip h3).mono (Nat.le_succ k))
          have hal : a < (unitsR cl k).length := (List.getElem?_eq_some_iff.1 hux).1
          obtain ⟨x, hvx⟩ : ∃ x, V[a]? = some x := ⟨_, List.getElem?_eq_getElem (by rw [HN.out.len]; exact hal)⟩
          obtain ⟨g6, c6, e6, _, _⟩ := HN.out.row.form (by omega)
          injection e6 with e6 e7 e8
          subst e6 e8
          have hulen : u.length ≤ 10000 := by
            have hm : u ∈ unitsR cl k := List.mem_of_getElem? hux
            unfold unitsR at hm
            obtain ⟨q, _, rfl⟩ := List.mem_map.1 hm
            have : (mems cl k q).length ≤ (List.range k).length := List.length_filter_le _ _
            rw [List.length_range] at this
            omega
          have haN : (a : Int) < ((unitsR cl k).length : Int) := by omega
          have HNN := Lib.hid (show (unitsR cl k).length = (unitsR cl k).length from rfl)
          have HNX := HN
          have HUX := HU
          obtain ⟨wX, hwX⟩ : ∃ wX, wX = wr := ⟨_, rfl⟩
          subst hwX
          clear h1 h3 hr hrr hset ha HN HU HW e7 hne
          obtain ⟨Ax, cx, rfl⟩ := own_shape (HNX.out.each a x u hvx hux)
          have hrwX := HNX.out.row
          try rw [HNN.out] at hrwX
          have cx1 : wX.cell? ⟨g6, a, none⟩ = some (.slice Ax u.length cx) := by rw [hrwX.cellAt a (by have := (List.getElem?_eq_some_iff.1 hux).1; omega)]; exact hvx
          have HVX := Lib.hid hvx
          have HXX := Lib.hid hux
          have HN7 := Lib.hid (HNX.out.below (w' := wX.alloc (.cells #[.int .i64 (k : Int)] tI)) ((Below.refl _ _).alloc (Nat.le_refl _) _))
          have HW7 := Lib.hid (HWX.out.below (w' := wX.alloc (.cells #[.int .i64 (k : Int)] tI)) ((Below.refl _ _).alloc (Nat.le_refl _) _))
          have HU7 := Lib.hid (HUX.out.alloc (.cells #[.int .i64 (k : Int)] tI))
          have hsX : w3.heap.size ≤ wX.heap.size := HUX.out.size
          have HOX := Lib.hid (HN7.out.each a _ u hvx hux)
          clear hvx hux hrwX HNX HWX HUX
          go_wp2_with (at_builtin; refine wpList_append_rd _ rfl (.tmp 40) (.tmp 42) _ rfl w3.heap.size tI i1 _ 1 8 Try.underlying55 HI1.out HZ1.out HS1.out HY1.out rfl (by omega) _ _ _ rfl HOX.out _ 1 1 _ rfl (rdx_int wX k) ?_ ?_ ?_ ?_)
          · unfold maxLen; omega
          · omega
          · first | omega | (simp; omega)
          intro v8 w8 hown8 hg8 hat8
          obtain ⟨A8, c8, rfl⟩ := own_shape hown8
          have hrow8 := HN7.out.row.kept hg8 (.inr fun e => rows_apart HN7.out.row HOX.out (by decide) g6 rfl e.symm)
          try rw [HNN.out] at hrow8
          have c8a : ∃ y, w8.cell? ⟨g6, a, none⟩ = some y := ⟨_, (hrow8.cellAt a (by have := (List.getElem?_eq_some_iff.1 HXX.out).1; omega)).trans HVX.out⟩
          obtain ⟨y8, c8a⟩ := c8a
          have z8a : w8.frozen? ⟨g6, a, none⟩ = false := hrow8.frozenAt a
          have hg6B : w3.heap.size ≤ g6 := (hrow8.lt g6 rfl).1
          have HN9 := Lib.hid (HN7.out.more (i := k) HVX.out HXX.out (fun _ => trivial) hown8 hg8 (hat8.imp id (fun e => ⟨_, by simp, e⟩)) (by first | rfl | rw [HNN.out]))
          rw [HE.out] at HN9
          have hmapX : ∀ j, (Value.slice Ax u.length cx).ownBlock = some j → w.heap.size + 1 ≠ j := fun j hj e => by have h9 := HW7.out.lt; have h8 := HOX.out.lt j hj; have h7 := HWB.out; omega
          have HW9 := Lib.hid ((HW7.out.kept hg8 (fun e => hmapX _ e.symm rfl)).setCell (a := ⟨g6, a, none⟩) (by show w.heap.size + 1 ≠ g6; have h7 := HWB.out; omega) (.slice A8 (u.length + 1) c8))
          have HU9 := Lib.hid ((show Upd w3 w8 (One (w.heap.size + 1)) from ⟨hg8.os.trans HU7.out.os, hg8.tape.trans HU7.out.tape, hg8.output.trans HU7.out.output, Nat.le_trans HU7.out.size hg8.size, fun j hj hn => (hg8.block j (Nat.lt_of_lt_of_le hj HU7.out.size) (fun e => by have := (HOX.out.lt j e.symm).1; omega)).trans (HU7.out.block j hj hn)⟩).set (b := g6) (i := a) (.inl hg6B) (.slice A8 (u.length + 1) c8))
          clear hown8 hg8 hat8 hrow8 hmapX HN7 HW7 HU7 HOX cx1
          go_wp2
          go_roundw
          case rel => exact ⟨k + 1, _, by omega, by go_num, HU9.out, HW9.out, HN9.out⟩
          case measure => simp [intOf]; omega
    · obtain rfl : k = n := by omega
      have hlowr : Below w.heap.size w wr := HB3.out.trans (HU.out.below HB3.out.size (fun j hj => by rw [show j = w.heap.size + 1 from hj]; omega))
      have hUl : (unitsR cl k).length ≤ k := by rw [unitsR_len]; exact Nat.le_trans (List.length_filter_le _ _) (by simp)
      have HUF := Lib.hid (show (unitsR cl k).filter (someB (phV out)) = unitsF cl k (phV out) from rfl)
      rcases HN.out.row.2 with ⟨e0, h0⟩ | ⟨g, cap, cur, e0, hgB, hbg, hUc, hcm, hcs, htk⟩
      · injection e0 with e1 e2 e3
        subst e1 e3
        have hnil : unitsR cl k = [] := List.eq_nil_of_length_eq_zero h0
        have HNIL := Lib.hid hnil
        have HL := Lib.hid hlowr
        rw [h0]
        clear hnil h0 e2 hlowr
        go_wp2_with fail
        refine (deleteU_nil w.heap.size wr).mono ?_
        rintro e w8 ⟨rfl, hb8⟩
        have HB8 := Lib.hid (HL.out.trans (hb8.mono HL.out.size))
        clear hb8
        go_wp2
        go_ret
        refine ⟨none, 0, [], ?_, ?_, HB8.out⟩
        · rw [← HUF.out, HNIL.out]; rfl
        · rw [← HUF.out, HNIL.out]; exact UnOwn.empty _ _
      · injection e0 with e1 e2 e3
        subst e1 e3
        have hzl : (V.zip (unitsR cl k)).length = (unitsR cl k).length := by rw [List.length_zip, HN.out.len]; exact Nat.min_self _
        have hgr : w3.heap.size ≤ g := hgB
        have hd := deleteU_any w.heap.size g (unitsR cl k).length cv (V.zip (unitsR cl k)) (someB (phV out)) wr cur hbg (by rw [hcs, Nat.mul_one]) hUc hcm (fun j x hx => by
          rw [List.getElem?_zip_eq_some] at hx
          have h1 := hx.1
          rw [← htk, List.getElem?_take, Nat.mul_one] at h1
          split at h1
          · rwa [Array.getElem?_toList] at h1
          · cases h1) hzl (by omega) (fun x hx => by
          obtain ⟨j, hv, hu⟩ := zip_at hx
          obtain ⟨A9, c9, e9⟩ := own_shape (HN.out.each j _ _ hv hu)
          exact ⟨A9, _, c9, e9⟩) (fun W hW x hx => by
          obtain ⟨j, hv, hu⟩ := zip_at hx
          have ho := HN.out.each j _ _ hv hu
          obtain ⟨A9, c9, e9⟩ := own_shape ho
          have ho' := own_upd ho hW (fun e => rows_apart ho HN.out.row (by decide) g e rfl)
          rw [e9] at ho' ⊢
          have hbW : Below w.heap.size w W := hlowr.trans (hW.below hlowr.size (fun j hj => by rw [show j = g from hj]; have := HB3.out.size; omega))
          have hul9 : x.2.length ≤ 1000000 ∧ ∀ i ∈ x.2, i < k := by
            have hm : x.2 ∈ unitsR cl k := List.mem_of_getElem? hu
            unfold unitsR at hm
            obtain ⟨q, _, e⟩ := List.mem_map.1 hm
            rw [← e]
            refine ⟨?_, fun i hi => (mem_mems.1 hi).1⟩
            have : (mems cl k q).length ≤ (List.range k).length := List.length_filter_le _ _
            rw [List.length_range] at this
            omega
          exact units1_any w.heap.size A A9 k c x.2.length c9 out R x.2 W (HGW.out.belowS hbW) (by omega) (rdx_own ho') hul9.1 hul9.2 (by
            have h1 : Blk wr w.heap.size 39 #[.slice A k c] := HX3.out.upd HU.out (by show ¬ w.heap.size = w.heap.size + 1; omega)
            exact (h1.upd hW (by show ¬ w.heap.size = g; have := HB3.out.size; have := HWB.out; omega)).cell 0))
        have HDC := Lib.hid hd
        have HL := Lib.hid hlowr
        have HUC := Lib.hid hUc
        have HCM := Lib.hid hcm
        have HLT := Lib.hid (show w.heap.size ≤ g by have := HB3.out.size; omega)
        clear hd hlowr hcs htk hbg hUc hcm hzl e2 hgB hgr
        go_wp2_with fail
        refine HDC.out.mono ?_
        rintro e w8 ⟨rfl, hdu⟩
        have hk8 := HN.out.keep HCM.out HUC.out hdu
        have HB8 := Lib.hid (HL.out.trans (hdu.upd.below HL.out.size (fun j hj => by rw [show j = g from hj]; exact HLT.out)))
        have hke := keepZ_snd (p := someB (phV out)) HN.out.len
        rw [HUF.out] at hke
        have hkl : (keepZ (someB (phV out)) (V.zip (unitsR cl k))).length = (unitsF cl k (phV out)).length := by rw [← hke, List.length_map]
        rw [hke, hkl] at hk8
        rw [hkl]
        have HK8 := Lib.hid hk8
        clear hdu hk8 hke hkl
        go_wp2
        go_ret
        exact ⟨_, _, _, rfl, ⟨ownT_more HK8.out.row HB3.out.size, HK8.out.len, fun i x u hx hu => ownT_more (HK8.out.each i x u hx hu) HB3.out.size, HK8.out.apart⟩, HB8.out⟩
end Go.Proofs.Ytlkpbpecgdphaaa
