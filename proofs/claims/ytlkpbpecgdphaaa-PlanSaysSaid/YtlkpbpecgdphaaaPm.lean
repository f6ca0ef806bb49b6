/-
  WALK: hammerpondref.Stale.
-/
import Derived.Test.YtlkpbpecgdphaaaPl
import Derived.Test.YtlkpbpecgdphaaaPj
import Derived.Test.YtlkpbpecgdphaaaParse
namespace Go.Proofs.Ytlkpbpecgdphaaa
open Go.RowKit

theorem bool_parts : ∃ i, Try.prog.info? tBo = some i ∧ i.zero = some (.bool false) ∧ i.size = 1 ∧ i.bytes = 1 := by
  have h : (Try.prog.info? tBo).map (fun i => (i.zero, i.size, i.bytes)) = some (some (.bool false), 1, 1) := by kernel_rfl
  cases e : Try.prog.info? tBo with
  | none => rw [e] at h; cases h
  | some i =>
    rw [e] at h
    simp only [Option.map_some, Option.some.injEq, Prod.mk.injEq] at h
    exact ⟨i, rfl, h.1, h.2.1, h.2.2⟩
theorem rdx_bool (w : World) (b : Bool) : RdX (w.alloc (.cells #[.bool b] tBo)) 1 (some ⟨w.heap.size, 0, none⟩) 1 [.bool b] := RdX.new w 1 #[.bool b] tBo rfl (by intro u hu; simp at hu; subst hu; rfl)
def SmRelS (w : World) (n : Nat) (K : Kp) (l : List F) (gs : List Gp) (v i : Value) (wr : World) : Prop :=
  ∃ k : Nat, k ≤ n ∧ i = .int .i64 k ∧ Below w.heap.size w wr ∧ wr.ownsRow w.heap.size tBo 1 v k (bcells (staleUpto K l gs k))
def SnRelS (w3 : World) (gs : List Gp) (st : List Bool) (nd : List ByteArray) (n : Nat) (b0 : Bool) (b j : Value) (wr : World) : Prop :=
  ∃ k : Nat, k ≤ n ∧ j = .int .i64 k ∧ b = .bool (b0 || (nd.take k).any (nd1 gs st)) ∧ Below w3.heap.size w3 wr
theorem any_take {nd : List ByteArray} {p : ByteArray → Bool} {k : Nat} {t : ByteArray} (h : nd[k]? = some t) : (nd.take (k + 1)).any p = ((nd.take k).any p || p t) := by
  rw [List.take_add_one, h]; simp
set_option maxRecDepth 100000 in
set_option maxHeartbeats 8000000 in
theorem refStale_any (K : Kp) (A AL AK : Option Addr) (n c nL cL nK cK : Nat) (gs : List Gp) (R : List Row4) (l : List F) (w : World) (h : GpRd w A n c gs R) (hk : KpRd w AK nK cK K) (hl : RdF w w.heap.size AL nL cL l) (hs : Rises l) (hG : GsOk gs) (hne : ∀ g ∈ gs, g.tg ≠ []) (hn : n ≤ 10000) (hL : nL ≤ 1000) (hK : nK ≤ 10000) :
    Calls Try.prog 11 #[.slice A n c, .slice AL nL cL, .slice AK nK cK] w fun e w' => ∃ A' c', e = .returned (.slice A' n c') ∧ w'.ownsRow w.heap.size tBo 1 (.slice A' n c') n (bcells (staleR K l gs)) ∧ Below w.heap.size w w' := by
  have HG := Lib.hid h
  have HGL := Lib.hid h.len
  have HGS := Lib.hid hG
  have HFR := Lib.hid (fun (W : World) (hb : Below w.heap.size w W) (g : Gp) (At An Ac : Option Addr) (nt ct nn cn nc cc : Nat) (ht : RdS W W.heap.size At nt ct g.tg) (hd : RdS W W.heap.size An nn cn g.nd) (hc : RdS W W.heap.size Ac nc cc g.cm) (h0 : g.tg ≠ []) (h1 : nt ≤ 1000) (h2 : nn ≤ 1000) (h3 : nc ≤ 1000) =>
    refFresh_any K At An Ac AL AK nt ct nn cn nc cc nL cL nK cK g l W (hk.belowS hb) ht hd hc (RdF.belowS hl hb) hs h0 h1 h2 h3 hL hK)
  have HNE := Lib.hid hne
  obtain ⟨i1, hi1, hz1, hsi1, hby1⟩ := bool_parts
  have HI1 := Lib.hid hi1
  have HZ1 := Lib.hid hz1
  have HS1 := Lib.hid hsi1
  have HY1 := Lib.hid hby1
  have HRE := Lib.hid (show staleUpto K l gs n = staleR K l gs from by unfold staleR; rw [h.len])
  clear h hk hl hs hG hne hi1 hz1 hsi1 hby1
  go_enter Try.func11, Try.ntmps11
  go_wp2
  go_loopw [7, 8] (fun v i wr => SmRelS w n K l gs v i wr) (fun _ i _ => n - (intOf i).toNat)
  case atStart => exact ⟨0, Nat.zero_le _, by go_num, Below.refl _ _, World.ownsRow_nil _ _ _ _⟩
  case round =>
    obtain ⟨k, hk, rfl, hb, hown⟩ := hrel
    obtain ⟨Ao, co, rfl⟩ := own_shape hown
    have HB := Lib.hid hb
    have HO := Lib.hid hown
    clear hb hown
    by_cases hlt : k < n
    · have hkz : (k : Int) < (n : Int) := by omega
      have hgp := HG.out.belowS HB.out
      obtain ⟨x, hx⟩ : ∃ x, R[k]? = some x := ⟨_, List.getElem?_eq_getElem (by rw [hgp.rows.1]; exact hlt)⟩
      obtain ⟨g, hg⟩ : ∃ g, gs[k]? = some g := ⟨_, List.getElem?_eq_getElem (by rw [HGL.out]; exact hlt)⟩
      obtain ⟨b', off, hA, hb5, hc1, hc2, hc3, hc4⟩ := hgp.rows.at_ hx
      subst hA
      obtain ⟨⟨At, ct, e1, -⟩, ⟨An, cn, e2, -⟩, ⟨Ac, cc, e3, -⟩, e4⟩ := hgp.each k x g hx hg
      obtain ⟨x1, x2, x3, x4⟩ := x
      dsimp only at e1 e2 e3 e4 hc1 hc2 hc3 hc4
      subst e1 e2 e3 e4
      have hgo := HGS.out g (List.mem_of_getElem? hg)
      have HX := Lib.hid hx
      have HGG := Lib.hid hg
      have HRD := Lib.hid (fun (W : World) (hb : Below w.heap.size w W) => show (W.cell? ⟨b', off + k * 4 + 1, none⟩ = some (.slice An g.nd.length cn) ∧ W.cell? ⟨b', off + k * 4 + 3, none⟩ = some (.bool g.ph)) ∧ RdS W W.heap.size At g.tg.length ct g.tg ∧ RdS W W.heap.size An g.nd.length cn g.nd ∧ RdS W W.heap.size Ac g.cm.length cc g.cm from by
        obtain ⟨b2, o2, h2, _, q1, q2, q3, q4⟩ := (HG.out.belowS hb).rows.at_ HX.out
        injection h2 with h2
        injection h2 with h2 h3
        subst h2 h3
        obtain ⟨⟨At', ct', e1, r1⟩, ⟨An', cn', e2, r2⟩, ⟨Ac', cc', e3, r3⟩, -⟩ := (HG.out.belowS hb).each k _ g HX.out HGG.out
        injection e1 with e1 _ e1'
        injection e2 with e2 _ e2'
        injection e3 with e3 _ e3'
        subst e1 e1' e2 e2' e3 e3'
        exact ⟨⟨q2, q4⟩, r1, r2, r3⟩)
      have hkc : k ≤ c := by have := hgp.rows.2.1; omega
      have HMK := Lib.hid (fun (t : ByteArray) (W : World) (hb : Below w.heap.size w W) => makerOf_any (some ⟨b', off, none⟩) k c (gs.take k) (R.take k) t W ((HG.out.belowS hb).first (by omega)) (fun g hg => (HGS.out g (List.mem_of_mem_take hg)).1))
      have HSL := Lib.hid (staleUpto_len K l gs k)
      have HSN := Lib.hid (show staleUpto K l gs (k + 1) = staleUpto K l gs k ++ [(!g.ph && !freshR K l g) || g.nd.any (nd1 (gs.take k) (staleUpto K l gs k))] from by
        show staleUpto K l gs k ++ [match gs[k]? with | some g => staleG K l (gs.take k) (staleUpto K l gs k) g | none => false] = _
        rw [HGG.out]; rfl)
      have hfr := HFR.out wr HB.out g At An Ac _ ct _ cn _ cc (HRD.out wr HB.out).2.1 (HRD.out wr HB.out).2.2.1 (HRD.out wr HB.out).2.2.2 (HNE.out g (List.mem_of_getElem? HGG.out)) hgo.1 hgo.2.1 hgo.2.2.1
      have HFC := Lib.hid hfr
      have hndl := hgo.2.1
      revert HO HSL HSN
      generalize staleUpto K l gs k = st
      intro HO HSL HSN
      clear hx hg hgp hfr hgo HFR
      generalize freshR K l g = fr at *
      go_wp2_with fail
      refine HFC.out.mono ?_
      rintro e w3 ⟨rfl, hb3⟩
      have HB3 := Lib.hid (HB.out.trans (hb3.mono HB.out.size))
      have HO3 := Lib.hid (ownsRow_kept (w' := w3) HO.out (fun g hg => hb3.block g (HO.out.lt g hg).2))
      obtain ⟨⟨q2, q4⟩, -⟩ := HRD.out w3 HB3.out
      clear hb3 HO HFC hc1 hc2 hc3 hc4
      obtain ⟨b0, hb0⟩ : ∃ b0, b0 = (!g.ph && !fr) := ⟨_, rfl⟩
      rw [← hb0] at HSN
      have hcase : (g.ph = true ∧ b0 = false) ∨ (g.ph = false ∧ b0 = !fr) := by rw [hb0]; cases g.ph <;> simp
      obtain ⟨ph, hph⟩ : ∃ ph, ph = g.ph := ⟨_, rfl⟩
      rw [← hph] at q4 hcase
      have HPH := Lib.hid hph
      clear hb0 hph
      rcases hcase with ⟨rfl, rfl⟩ | ⟨rfl, rfl⟩
      · go_wp2
        go_loopw [10, 11] (fun b j wr => SnRelS w3 (gs.take k) st g.nd g.nd.length false b j wr) (fun _ j _ => g.nd.length - (intOf j).toNat)
        case atStart => exact ⟨0, Nat.zero_le _, by go_num, by simp, Below.refl _ _⟩
        case round =>
          obtain ⟨j, hj, rfl, rfl, hb4⟩ := hrel
          have HB4 := Lib.hid hb4
          have HB34 := Lib.hid (HB3.out.trans (hb4.mono HB3.out.size))
          have HO4 := Lib.hid (ownsRow_kept (w' := wr) HO3.out (fun g hg => hb4.block g (HO3.out.lt g hg).2))
          obtain ⟨⟨d2, -⟩, -, rn, -⟩ := HRD.out wr HB34.out
          clear hb4 q2 q4
          by_cases hlt2 : j < g.nd.length
          · obtain ⟨tx, htx⟩ : ∃ t, g.nd[j]? = some t := ⟨_, List.getElem?_eq_getElem hlt2⟩
            obtain ⟨b2, o2, rfl, hb2l, ct2⟩ := rn.at_ htx
            have hjz : (j : Int) < (g.nd.length : Int) := by omega
            have hkz0 : (0 : Int) ≤ (k : Int) := by omega
            have hkcz : (k : Int) ≤ (c : Int) := by omega
            have HAT := Lib.hid (any_take (p := nd1 (gs.take k) st) htx)
            have HCM := Lib.hid (HMK.out tx)
            have HLT := Lib.hid (show ∀ a, makerO (gs.take k) tx = some a → a < k from fun a e => by have := makerO_lt e; rw [List.length_take] at this; omega)
            have HN1 := Lib.hid (show nd1 (gs.take k) st tx = (match makerO (gs.take k) tx with | some a => st.getD a false | none => false) from rfl)
            clear htx rn
            revert HAT
            generalize (g.nd.take j).any (nd1 (gs.take k) st) = acc
            intro HAT
            go_wp2_with fail
            go_region_with (first | (go_at_call 26; refine (HCM.out _ HB34.out.drew).mono ?_; rintro e w6 ⟨rfl, rfl⟩))
            cases hmo : makerO (gs.take k) tx with
            | none =>
              rw [hmo] at HN1
              have HAT2 := Lib.hid (show (g.nd.take (j + 1)).any (nd1 (gs.take k) st) = acc from by rw [HAT.out, HN1.out]; simp)
              rw [show idxV none = -1 from rfl]
              clear hmo HN1 HAT
              go_wp2
              go_roundw
              case rel => exact ⟨j + 1, by omega, by go_num, by first | (rw [HAT2.out]; done) | (rw [HAT2.out]; simp), HB4.out.drew⟩
              case measure => simp [intOf]; omega
            | some a =>
              have hak := HLT.out a hmo
              rw [hmo] at HN1
              rw [show idxV (some a) = (a : Int) from rfl]
              have a0 : decide ((0 : Int) ≤ (a : Int)) = true := decide_eq_true (by omega)
              have a1 : (a : Int) < (k : Int) := by omega
              obtain ⟨go, co', e9, hgo1, hgo2⟩ := HO4.out.form (by omega)
              injection e9 with e9 _ e10
              subst e9 e10
              have ca : wr.cell? ⟨go, a, none⟩ = some (.bool (st.getD a false)) := by
                rw [HO4.out.cellAt a (by omega)]
                simp [bcells, HSL.out, hak]
              have hn1 := HN1.out
              dsimp only at hn1
              have hat := HAT.out
              rw [hn1] at hat
              have HAT2 := Lib.hid hat
              generalize st.getD a false = va at ca HAT2
              clear hmo HN1 HAT hn1 hat
              cases va with
              | false =>
                have HAT3 := Lib.hid (show (g.nd.take (j + 1)).any (nd1 (gs.take k) st) = acc from by rw [HAT2.out]; simp)
                clear HAT2
                go_wp2
                go_roundw
                case rel => exact ⟨j + 1, by omega, by go_num, by first | (rw [HAT3.out]; done) | (rw [HAT3.out]; simp), HB4.out.drew⟩
                case measure => simp [intOf]; omega
              | true =>
                have HAT3 := Lib.hid (show (g.nd.take (j + 1)).any (nd1 (gs.take k) st) = true from by rw [HAT2.out]; simp)
                clear HAT2
                go_wp2
                go_roundw
                case rel => exact ⟨j + 1, by omega, by go_num, by rw [HAT3.out]; simp, HB4.out.drew⟩
                case measure => simp [intOf]; omega
          · obtain rfl : j = g.nd.length := by omega
            rw [List.take_length]
            have hs4 : w.heap.size ≤ wr.heap.size := HB34.out.size
            revert HSN
            generalize (false || g.nd.any (nd1 (gs.take k) st)) = X
            intro HSN
            have HOA := Lib.hid (HO4.out.alloc (.cells #[.bool X] tBo))
            clear rn
            go_wp2_with (at_builtin; refine wpList_append_rd _ rfl (.tmp 66) (.tmp 68) _ rfl w.heap.size tBo i1 _ 1 1 Try.underlying24 HI1.out HZ1.out HS1.out HY1.out rfl (by omega) _ _ _ rfl HOA.out _ 1 1 _ rfl (rdx_bool wr X) ?_ ?_ ?_ ?_)
            · unfold maxLen; omega
            · omega
            · first | omega | (simp; omega)
            intro v9 w9 hown9 hg9 hat9
            obtain ⟨A9, c9, rfl⟩ := own_shape hown9
            have HO9 := Lib.hid hown9
            have HU9 := Lib.hid (show Below w.heap.size w w9 from (HB34.out.alloc HB34.out.size (.cells #[.bool X] tBo)).grown hg9 (by simp; omega) (fun g hg => (HO4.out.lt g hg).1))
            clear hown9 hg9 hat9
            go_wp2
            go_roundw
            case rel => exact ⟨k + 1, by omega, by go_num, HU9.out, by rw [HSN.out, show bcells (st ++ [X]) = bcells st ++ [.bool X] by simp [bcells]]; exact HO9.out⟩
            case measure => simp [intOf]; omega
      · go_wp2
        go_loopw [10, 11] (fun b j wr => SnRelS w3 (gs.take k) st g.nd g.nd.length (!fr) b j wr) (fun _ j _ => g.nd.length - (intOf j).toNat)
        case atStart => exact ⟨0, Nat.zero_le _, by go_num, by simp, Below.refl _ _⟩
        case round =>
          obtain ⟨j, hj, rfl, rfl, hb4⟩ := hrel
          have HB4 := Lib.hid hb4
          have HB34 := Lib.hid (HB3.out.trans (hb4.mono HB3.out.size))
          have HO4 := Lib.hid (ownsRow_kept (w' := wr) HO3.out (fun g hg => hb4.block g (HO3.out.lt g hg).2))
          obtain ⟨⟨d2, -⟩, -, rn, -⟩ := HRD.out wr HB34.out
          clear hb4 q2 q4
          by_cases hlt2 : j < g.nd.length
          · obtain ⟨tx, htx⟩ : ∃ t, g.nd[j]? = some t := ⟨_, List.getElem?_eq_getElem hlt2⟩
            obtain ⟨b2, o2, rfl, hb2l, ct2⟩ := rn.at_ htx
            have hjz : (j : Int) < (g.nd.length : Int) := by omega
            have hkz0 : (0 : Int) ≤ (k : Int) := by omega
            have hkcz : (k : Int) ≤ (c : Int) := by omega
            have HAT := Lib.hid (any_take (p := nd1 (gs.take k) st) htx)
            have HCM := Lib.hid (HMK.out tx)
            have HLT := Lib.hid (show ∀ a, makerO (gs.take k) tx = some a → a < k from fun a e => by have := makerO_lt e; rw [List.length_take] at this; omega)
            have HN1 := Lib.hid (show nd1 (gs.take k) st tx = (match makerO (gs.take k) tx with | some a => st.getD a false | none => false) from rfl)
            clear htx rn
            revert HAT
            generalize (g.nd.take j).any (nd1 (gs.take k) st) = acc
            intro HAT
            go_wp2_with fail
            go_region_with (first | (go_at_call 26; refine (HCM.out _ HB34.out.drew).mono ?_; rintro e w6 ⟨rfl, rfl⟩))
            cases hmo : makerO (gs.take k) tx with
            | none =>
              rw [hmo] at HN1
              have HAT2 := Lib.hid (show (g.nd.take (j + 1)).any (nd1 (gs.take k) st) = acc from by rw [HAT.out, HN1.out]; simp)
              rw [show idxV none = -1 from rfl]
              clear hmo HN1 HAT
              go_wp2
              go_roundw
              case rel => exact ⟨j + 1, by omega, by go_num, by first | (rw [HAT2.out]; done) | (rw [HAT2.out]; simp), HB4.out.drew⟩
              case measure => simp [intOf]; omega
            | some a =>
              have hak := HLT.out a hmo
              rw [hmo] at HN1
              rw [show idxV (some a) = (a : Int) from rfl]
              have a0 : decide ((0 : Int) ≤ (a : Int)) = true := decide_eq_true (by omega)
              have a1 : (a : Int) < (k : Int) := by omega
              obtain ⟨go, co', e9, hgo1, hgo2⟩ := HO4.out.form (by omega)
              injection e9 with e9 _ e10
              subst e9 e10
              have ca : wr.cell? ⟨go, a, none⟩ = some (.bool (st.getD a false)) := by
                rw [HO4.out.cellAt a (by omega)]
                simp [bcells, HSL.out, hak]
              have hn1 := HN1.out
              dsimp only at hn1
              have hat := HAT.out
              rw [hn1] at hat
              have HAT2 := Lib.hid hat
              generalize st.getD a false = va at ca HAT2
              clear hmo HN1 HAT hn1 hat
              cases va with
              | false =>
                have HAT3 := Lib.hid (show (g.nd.take (j + 1)).any (nd1 (gs.take k) st) = acc from by rw [HAT2.out]; simp)
                clear HAT2
                go_wp2
                go_roundw
                case rel => exact ⟨j + 1, by omega, by go_num, by first | (rw [HAT3.out]; done) | (rw [HAT3.out]; simp), HB4.out.drew⟩
                case measure => simp [intOf]; omega
              | true =>
                have HAT3 := Lib.hid (show (g.nd.take (j + 1)).any (nd1 (gs.take k) st) = true from by rw [HAT2.out]; simp)
                clear HAT2
                go_wp2
                go_roundw
                case rel => exact ⟨j + 1, by omega, by go_num, by rw [HAT3.out]; simp, HB4.out.drew⟩
                case measure => simp [intOf]; omega
          · obtain rfl : j = g.nd.length := by omega
            rw [List.take_length]
            have hs4 : w.heap.size ≤ wr.heap.size := HB34.out.size
            revert HSN
            generalize ((!fr) || g.nd.any (nd1 (gs.take k) st)) = X
            intro HSN
            have HOA := Lib.hid (HO4.out.alloc (.cells #[.bool X] tBo))
            clear rn
            go_wp2_with (at_builtin; refine wpList_append_rd _ rfl (.tmp 66) (.tmp 68) _ rfl w.heap.size tBo i1 _ 1 1 Try.underlying24 HI1.out HZ1.out HS1.out HY1.out rfl (by omega) _ _ _ rfl HOA.out _ 1 1 _ rfl (rdx_bool wr X) ?_ ?_ ?_ ?_)
            · unfold maxLen; omega
            · omega
            · first | omega | (simp; omega)
            intro v9 w9 hown9 hg9 hat9
            obtain ⟨A9, c9, rfl⟩ := own_shape hown9
            have HO9 := Lib.hid hown9
            have HU9 := Lib.hid (show Below w.heap.size w w9 from (HB34.out.alloc HB34.out.size (.cells #[.bool X] tBo)).grown hg9 (by simp; omega) (fun g hg => (HO4.out.lt g hg).1))
            clear hown9 hg9 hat9
            go_wp2
            go_roundw
            case rel => exact ⟨k + 1, by omega, by go_num, HU9.out, by rw [HSN.out, show bcells (st ++ [X]) = bcells st ++ [.bool X] by simp [bcells]]; exact HO9.out⟩
            case measure => simp [intOf]; omega
    · obtain rfl : k = n := by omega
      rw [HRE.out] at HO
      go_wp2
      go_ret
      exact ⟨_, _, rfl, HO.out, HB.out⟩
end Go.Proofs.Ytlkpbpecgdphaaa
