/-
  WALKS: plan.allPhony: are the groups of a unit all phony.
-/
import Derived.Test.YtlkpbpecgdphaaaUw
import Derived.Test.YtlkpbpecgdphaaaParse
namespace Go.Proofs.Ytlkpbpecgdphaaa
open Go.RowKit

/-- A row of answers in memory. -/
def bcells (st : List Bool) : List Value := st.map Value.bool
/-- The first k classes are laid, the rest is nought. -/
def startR (n : Nat) (st : List Bool) (k : Nat) : List Int := (cl0 n st).take k ++ List.replicate (n - k) 0
theorem startR_len (n : Nat) (st : List Bool) (k : Nat) (h : k ≤ n) : (startR n st k).length = n := by simp [startR, cl0]; omega
theorem startR_end (n : Nat) (st : List Bool) : startR n st n = cl0 n st := by
  have hl : (cl0 n st).length = n := by simp [cl0]
  simp only [startR, Nat.sub_self]
  rw [List.take_of_length_le (by omega)]; simp
theorem startR_zero (n : Nat) (st : List Bool) : startR n st 0 = List.replicate n 0 := by simp [startR]
theorem startR_succ (n : Nat) (st : List Bool) (k : Nat) (h : k < n) : startR n st (k + 1) = (startR n st k).set k (if st.getD k false then (k : Int) else -1) := by
  have hl : (cl0 n st).length = n := by simp [cl0]
  have e1 : (cl0 n st).take (k + 1) = (cl0 n st).take k ++ [if st.getD k false then (k : Int) else -1] := by
    rw [List.take_add_one, List.getElem?_eq_getElem (by omega)]; simp [cl0]
  have e2 : List.replicate (n - k) (0 : Int) = 0 :: List.replicate (n - (k + 1)) 0 := by rw [show n - k = (n - (k + 1)) + 1 by omega]; rfl
  simp only [startR]
  rw [e1, e2, List.set_append_right _ _ (by simp [hl]; omega), List.append_assoc]
  simp [hl, Nat.min_eq_left (Nat.le_of_lt h)]
theorem icells_zero (n : Nat) : icells (List.replicate n 0) = Array.replicate n (.int .i64 0) := by simp [icells]
theorem make_ints (w : World) (n : Nat) (hn : n ≤ 10000) : (Instr.makeSlice 55 (.int .i64 n) (.int .i64 n)).run Try.prog w = .ok (.slice (some ⟨w.heap.size, 0, none⟩) n n) (w.alloc (.cells (Array.replicate n (.int .i64 0)) tI)) := by
  have hz1 : Try.t3.size = 1 := by kernel_rfl
  have hz2 : Try.t3.bytes = 8 := by kernel_rfl
  have h := run_makeSlice (P := Try.prog) w 55 3 Try.t3 (.int .i64 0) Try.underlying55 (by kernel_rfl) (by kernel_rfl) .i64 .i64 n n (by omega) (by omega) (by rw [hz1]; simp; omega) (by rw [hz2]; omega) (by omega)
  rw [h]
  have hcs : madeCells (Value.int IntKind.i64 0).cells ((n : Int).toNat * Try.t3.size) = Array.replicate n (Value.int IntKind.i64 0) := by
    rw [hz1]
    simp only [madeCells, Int.toNat_natCast, Nat.mul_one]
    apply Array.ext
    · simp
    · intro i h1 h2
      simp [Value.cells, Nat.mod_one]
  rw [hcs]
  rfl
theorem bools_len {w : World} {B : Option Addr} {m : Nat} {st : List Bool} (h : RdX w 1 B m (bcells st)) : st.length = m := by have := h.1; simpa [bcells] using this
theorem cell_block_lt {w : World} {b off : Nat} {u : Value} (h : w.cell? ⟨b, off, none⟩ = some u) : b < w.heap.size := by
  rcases Nat.lt_or_ge b w.heap.size with g | g
  · exact g
  · exfalso; simp [World.cell?, Array.getElem?_eq_none g] at h
theorem bools_at {w wr : World} {B : Option Addr} {m : Nat} {st : List Bool} (h : RdX w 1 B m (bcells st)) (hb : Below w.heap.size w wr) {k : Nat} (hk : k < m) : ∃ b off, B = some ⟨b, off, none⟩ ∧ b < w.heap.size ∧ wr.cell? ⟨b, off + k, none⟩ = some (.bool (st.getD k false)) := by
  obtain ⟨b, off, e, hc⟩ := h.2.2 (by omega)
  have hl := bools_len h
  have h1 := hc k (.bool (st.getD k false)) (by simp [bcells, hl, hk])
  have hlt : b < w.heap.size := cell_block_lt h1
  exact ⟨b, off, e, hlt, (hb.cell (p := ⟨b, off + k, none⟩) hlt).trans h1⟩
def Cs1Rel (w : World) (g n : Nat) (st : List Bool) (v : Value) (wr : World) : Prop :=
  ∃ k : Nat, k ≤ n ∧ v = .int .i64 k ∧ Below w.heap.size w wr ∧ Blk wr g tI (icells (startR n st k)) ∧ g < wr.heap.size
/-- Of each group, which groups make what it needs. -/
def mkM (out : List Gp) (i : Nat) : List (Option Nat) := match out[i]? with
  | some g => g.nd.map (makerO out)
  | none => []
def Cs2Rel (w : World) (g n : Nat) (st : List Bool) (out : List Gp) (v : Value) (wr : World) : Prop :=
  ∃ k : Nat, k ≤ n ∧ v = .int .i64 k ∧ Below w.heap.size w wr ∧ Blk wr g tI (icells (clUpto n st (mkM out) k))
def Cs3Rel (w : World) (g n k N : Nat) (st : List Bool) (out : List Gp) (os : List (Option Nat)) (v : Value) (wr : World) : Prop :=
  ∃ j : Nat, j ≤ N ∧ v = .int .i64 j ∧ Below w.heap.size w wr ∧ Blk wr g tI (icells (clNeeds (clUpto n st (mkM out) k) k (os.take j)))
theorem mkM_at {out : List Gp} {i : Nat} {g : Gp} (h : out[i]? = some g) : mkM out i = g.nd.map (makerO out) := by simp [mkM, h]
theorem makerO_lt {out : List Gp} {t : ByteArray} {a : Nat} (h : makerO out t = some a) : a < out.length := by
  unfold makerO at h
  exact (List.findIdx?_eq_some_iff_findIdx_eq.1 h).1
theorem clNeeds_snoc (c : List Int) (i : Nat) (os : List (Option Nat)) (o : Option Nat) : clNeeds c i (os ++ [o]) = clNeed (clNeeds c i os) i o := by simp [clNeeds]
theorem below_upd {B g : Nat} {w w1 w2 : World} (hb : Below B w w1) (hu : Upd w1 w2 (One g)) (hB : B ≤ w1.heap.size) (hg : B ≤ g) : Below B w w2 :=
  ⟨hu.os.trans hb.os, hu.tape.trans hb.tape, hu.output.trans hb.output, Nat.le_trans hb.size hu.size, fun k hk => (hu.block k (by omega) (by show ¬ k = g; omega)).trans (hb.block k hk)⟩
set_option maxHeartbeats 2000000 in
set_option maxRecDepth 100000 in
theorem classes_any (w : World) (A B : Option Addr) (n c m cb : Nat) (out : List Gp) (R : List Row4) (st : List Bool) (h : GpRd w A n c out R) (hs : RdX w 1 B m (bcells st)) (hn : n ≤ 10000) (_hm : m ≤ 100000) (ht : ∀ g ∈ out, g.tg.length ≤ 1000) :
    Calls Try.prog 32 #[.slice A n c, .slice B m cb] w fun e w' => ∃ g, e = .returned (.slice (some ⟨g, 0, none⟩) n n) ∧ w.heap.size ≤ g ∧ Below w.heap.size w w' ∧ Blk w' g tI (icells (clUpto n st (mkM out) n)) := by
  have HG := Lib.hid h
  have HS := Lib.hid hs
  clear h hs
  go_enter Try.func32, Try.ntmps32
  have hmk := make_ints w n hn
  go_wp2
  go_loopw [17] (fun i wr => Cs1Rel w w.heap.size n st i wr) (fun i _ => n - (intOf i).toNat)
  case atStart =>
    exact ⟨0, Nat.zero_le _, by go_num, (Below.refl _ _).alloc (Nat.le_refl _) _, by rw [startR_zero, icells_zero]; exact Blk.new _ _ _, by simp⟩
  case round =>
    obtain ⟨k, hk, rfl, hu, hb, hg⟩ := hrel
    have HU := Lib.hid hu
    have HC := Lib.hid hb
    clear hu hb
    have hw0 : w.heap.size ≤ w.heap.size := Nat.le_refl _
    by_cases hlt : k < n
    · have zk : wr.frozen? ⟨w.heap.size, k, none⟩ = false := HC.out.free k
      have zk2 : (wr.setCell ⟨w.heap.size, k, none⟩ (.int .i64 (-1))).frozen? ⟨w.heap.size, k, none⟩ = false := (HC.out.set k _).free k
      have hl := startR_len n st k hk
      have ck : ∃ u, wr.cell? ⟨w.heap.size, k, none⟩ = some u := ⟨_, by rw [HC.out.cell, icells_at _ _ (by rw [hl]; exact hlt)]⟩
      obtain ⟨u, ck⟩ := ck
      have HN := Lib.hid (startR_succ n st k hlt)
      have HL := Lib.hid (bools_len HS.out)
      clear hl
      by_cases hkm : k < m
      · obtain ⟨b, off, hB, hbl, hcb⟩ := bools_at HS.out HU.out hkm
        subst hB
        have hbn : b ≠ w.heap.size := by omega
        have hcb2 : (wr.setCell ⟨w.heap.size, k, none⟩ (.int .i64 (-1))).cell? ⟨b, off + k, none⟩ = some (.bool (st.getD k false)) := by
          rw [World.cell?_of_block (w := wr) (Below.heap_setCell _ _ _ _ hbn)]; exact hcb
        generalize st.getD k false = y at hcb2 HN
        clear hcb
        cases y
        · go_wp2
          go_roundw
          case rel => exact ⟨k + 1, by omega, by go_num, HU.out.setCell (p := ⟨w.heap.size, k, none⟩) (Nat.le_refl _) _, by rw [HN.out, ← icells_set]; exact HC.out.set _ _, by simp; exact hg⟩
          case measure => simp [intOf]; omega
        · go_wp2
          go_roundw
          case rel => exact ⟨k + 1, by omega, by go_num, (HU.out.setCell (p := ⟨w.heap.size, k, none⟩) (Nat.le_refl _) _).setCell (p := ⟨w.heap.size, k, none⟩) (Nat.le_refl _) _, by
            have e := (HC.out.set k (.int .i64 (-1))).set k (.int .i64 (k : Int))
            rw [icells_set, icells_set, List.set_set] at e
            rw [HN.out]; exact e, by simp; exact hg⟩
          case measure => simp [intOf]; omega
      · have hy : st.getD k false = false := by have := HL.out; simp [List.getD_eq_getElem?_getD, List.getElem?_eq_none (show st.length ≤ k by omega)]
        rw [hy] at HN
        clear hy
        go_wp2
        go_roundw
        case rel => exact ⟨k + 1, by omega, by go_num, HU.out.setCell (p := ⟨w.heap.size, k, none⟩) (Nat.le_refl _) _, by rw [HN.out, ← icells_set]; exact HC.out.set _ _, by simp; exact hg⟩
        case measure => simp [intOf]; omega
    · obtain rfl : k = n := by omega
      rw [startR_end] at HC
      obtain ⟨w0, hw0e⟩ : ∃ w0, w0 = wr := ⟨_, rfl⟩
      subst hw0e
      go_wp2
      go_loopw [40] (fun i wr => Cs2Rel w w.heap.size k st out i wr) (fun i _ => k - (intOf i).toNat)
      case atStart => exact ⟨0, Nat.zero_le _, by go_num, HU.out, HC.out⟩
      case round =>
        obtain ⟨i, hi, rfl, hu2, hb2⟩ := hrel
        have HU2 := Lib.hid hu2
        have HC2 := Lib.hid hb2
        clear hu2 hb2 hmk
        by_cases hlt2 : i < k
        · have hgp := HG.out.belowS HU2.out
          obtain ⟨x, hx⟩ : ∃ x, R[i]? = some x := ⟨_, List.getElem?_eq_getElem (by rw [hgp.rows.1]; exact hlt2)⟩
          obtain ⟨g, hg2⟩ : ∃ g, out[i]? = some g := ⟨_, List.getElem?_eq_getElem (by rw [hgp.len]; exact hlt2)⟩
          have hkz : (i : Int) < (k : Int) := by omega
          have HX := Lib.hid hx
          have HGG := Lib.hid hg2
          obtain ⟨b', off, hA5, hb5, hc1, hc2, hc3, hc4⟩ := hgp.rows.at_ hx
          subst hA5
          obtain ⟨⟨At, ct, e1, -⟩, ⟨An, cn, e2, -⟩, ⟨Ac, cc, e3, -⟩, e4⟩ := hgp.each i x g hx hg2
          obtain ⟨x1, x2, x3, x4⟩ := x
          dsimp only at e1 e2 e3 e4 hc1 hc2 hc3 hc4
          subst e1 e2 e3 e4
          have HNE := Lib.hid (fun (W : World) (hb : Below w.heap.size w W) => show RdS W W.heap.size An g.nd.length cn g.nd from by
            obtain ⟨-, ⟨An', cn', e2, r2⟩, -⟩ := (HG.out.belowS hb).each i _ g HX.out HGG.out
            injection e2 with e2 _ e2'
            subst e2 e2'
            exact r2)
          have hndl := Nat.le_trans (HNE.out wr HU2.out).2.1 (HNE.out wr HU2.out).2.2.1
          unfold maxLen at hndl
          have HM := Lib.hid (mkM_at HGG.out)
          have HMK := Lib.hid (fun (t : ByteArray) (W : World) (hb : Below w.heap.size w W) => maker_any (some ⟨b', off, none⟩) k c out R t W (HG.out.belowS hb) (by omega) ht)
          have HOL := Lib.hid HG.out.len
          clear hx hg2 hgp
          obtain ⟨w2, hw2e⟩ : ∃ w2, w2 = wr := ⟨_, rfl⟩
          subst hw2e
          go_wp2
          go_loopw [48] (fun i' wr => Cs3Rel w w.heap.size k i g.nd.length st out (mkM out i) i' wr) (fun i' _ => g.nd.length - (intOf i').toNat)
          case atStart => exact ⟨0, Nat.zero_le _, by go_num, HU2.out.alloc HU2.out.size _, HC2.out.alloc _⟩
          case round =>
            obtain ⟨j, hj, rfl, hu3, hb3⟩ := hrel
            have HU3 := Lib.hid hu3
            have hcl : ClOk k st (clNeeds (clUpto k st (mkM out) i) i ((mkM out i).take j)) := by
              have hM : ∀ i, i < k → ∀ o ∈ mkM out i, ∀ a, o = some a → a < k := fun i _ o ho a e => by
                unfold mkM at ho
                split at ho
                · obtain ⟨t, _, rfl⟩ := List.mem_map.1 ho
                  have := makerO_lt e
                  rw [HOL.out] at this; exact this
                · cases ho
              exact clNeeds_ok hlt2 _ _ (clUpto_ok hM i (by omega)) (fun o ho => hM i hlt2 o (List.mem_of_mem_take ho))
            have HSN := Lib.hid (fun (t : ByteArray) (ht : g.nd[j]? = some t) => show clNeeds (clUpto k st (mkM out) i) i ((mkM out i).take (j + 1)) = clNeed (clNeeds (clUpto k st (mkM out) i) i ((mkM out i).take j)) i (makerO out t) from by
              rw [List.take_add_one, show (mkM out i)[j]? = some (makerO out t) by rw [HM.out, List.getElem?_map, ht]; rfl]
              exact clNeeds_snoc _ _ _ _)
            revert hb3 hcl HSN
            generalize hd : clNeeds (clUpto k st (mkM out) i) i ((mkM out i).take j) = d
            intro hb3 hcl HSN
            have HC3 := Lib.hid hb3
            have HD := Lib.hid hd
            have HK3 := Lib.hid hcl
            clear hu3 hb3 hd hcl
            by_cases hlt3 : j < g.nd.length
            · obtain ⟨t, ht3⟩ : ∃ t, g.nd[j]? = some t := ⟨_, List.getElem?_eq_getElem hlt3⟩
              obtain ⟨b2, o2, rfl, hb2l, ct2⟩ := (HNE.out wr HU3.out).at_ ht3
              have hkz3 : (j : Int) < (g.nd.length : Int) := by omega
              have HCM := Lib.hid (HMK.out t wr HU3.out)
              have HS3 := Lib.hid (HSN.out t ht3)
              have HLT := Lib.hid (fun a (h : makerO out t = some a) => makerO_lt h)
              clear ht3
              go_wp2_with fail
              refine HCM.out.mono ?_
              rintro e w6 ⟨rfl, hb6⟩
              have HU6 := Lib.hid (HU3.out.trans (hb6.mono HU3.out.size))
              have HC6 := Lib.hid (show Blk w6 w.heap.size tI (icells d) from (hb6.block _ HC3.out.lt).trans HC3.out)
              clear hb6
              cases hmo : makerO out t with
              | none =>
                rw [hmo] at HS3
                rw [show idxV none = -1 from rfl]
                go_wp2
                go_roundw
                case rel => exact ⟨j + 1, by omega, by go_num, HU6.out, by rw [HS3.out]; exact HC6.out⟩
                case measure => simp [intOf]; omega
              | some a =>
                have hak : a < k := by rw [← HOL.out]; exact HLT.out a hmo
                rw [hmo] at HS3
                rw [show idxV (some a) = (a : Int) from rfl]
                clear hmo
                have a0 : (0 : Int) ≤ (a : Int) := by omega
                have a1 : (a : Int) < (k : Int) := by omega
                have ca : w6.cell? ⟨w.heap.size, a, none⟩ = some (.int .i64 (clV d a)) := by rw [HC6.out.cell, icells_at _ _ (by rw [HK3.out.len]; exact hak)]
                have ci : w6.cell? ⟨w.heap.size, i, none⟩ = some (.int .i64 (clV d i)) := by rw [HC6.out.cell, icells_at _ _ (by rw [HK3.out.len]; exact hlt2)]
                have HV := Lib.hid (show clNeed d i (some a) = if clV d a ≠ -1 ∧ clV d i ≠ -1 then uniteR d (clV d i) (clV d a) else d from rfl)
                have HUN := Lib.hid (fun (x y : Int) => unite_any w6.drew w.heap.size k d x y k HK3.out.len (by omega) HC6.out.drew)
                rw [HV.out] at HS3
                clear HV
                generalize clV d a = va at ca HS3
                generalize clV d i = vi at ci HS3
                by_cases h1 : va = -1
                · subst h1
                  rw [if_neg (fun h => h.1 rfl)] at HS3
                  go_wp2
                  go_roundw
                  case rel => exact ⟨j + 1, by omega, by go_num, HU6.out, by rw [HS3.out]; exact HC6.out⟩
                  case measure => simp [intOf]; omega
                · have b1 : (va == -1) = false := by simpa using h1
                  by_cases h2 : vi = -1
                  · subst h2
                    rw [if_neg (fun h => h.2 rfl)] at HS3
                    go_wp2
                    go_roundw
                    case rel => exact ⟨j + 1, by omega, by go_num, HU6.out, by rw [HS3.out]; exact HC6.out⟩
                    case measure => simp [intOf]; omega
                  · have b2' : (vi == -1) = false := by simpa using h2
                    rw [if_pos ⟨h1, h2⟩] at HS3
                    have n1 : (va != -1) = true := by simpa using h1
                    have n2 : (vi != -1) = true := by simpa using h2
                    go_wp2_with fail
                    go_region_with (first | (go_at_call 52; refine (HUN.out vi va).mono ?_; rintro e w7 ⟨rfl, hu7, hb7⟩; have HU7 := Lib.hid (below_upd HU6.out.drew hu7 HU6.out.size (Nat.le_refl _)); have HC7 := Lib.hid hb7; clear hu7 hb7))
                    all_goals go_wp2
                    all_goals go_roundw
                    all_goals first | exact ⟨j + 1, by omega, by go_num, HU7.out, by rw [HS3.out]; exact HC7.out⟩ | (simp [intOf]; omega)
            · obtain rfl : j = g.nd.length := by omega
              go_wp2
              go_roundw
              case rel => exact ⟨i + 1, by omega, by go_num, HU3.out, by
                have e : clUpto k st (mkM out) (i + 1) = d := by rw [← HD.out, List.take_of_length_le (by rw [HM.out]; simp)]; rfl
                rw [e]; exact HC3.out⟩
              case measure => simp [intOf]; omega
        · obtain rfl : i = k := by omega
          go_wp2
          go_ret
          exact ⟨_, rfl, Nat.le_refl _, HU2.out, HC2.out⟩
end Go.Proofs.Ytlkpbpecgdphaaa
namespace Go.Proofs.Ytlkpbpecgdphaaa
open Go.RowKit

abbrev apF (X : Nat) : Value := .func (.func 55) #[] #[ptr X]
def phV (out : List Gp) (i : Nat) : Bool := match out[i]? with
  | some g => g.ph
  | none => false
def ints (u : List Nat) : List Value := u.map fun (i : Nat) => Value.int .i64 (i : Int)
theorem ints_at {w wr : World} {A : Option Addr} {m : Nat} {u : List Nat} (h : RdX w 1 A m (ints u)) (hb : Below w.heap.size w wr) {k i : Nat} (hk : u[k]? = some i) : ∃ b off, A = some ⟨b, off, none⟩ ∧ wr.cell? ⟨b, off + k, none⟩ = some (.int .i64 (i : Int)) := by
  have hl : u.length = m := by have := h.1; simpa [ints] using this
  have hkm : k < m := by rw [← hl]; exact (List.getElem?_eq_some_iff.1 hk).1
  obtain ⟨b, off, e, hc⟩ := h.2.2 (by omega)
  have h1 := hc k (.int .i64 (i : Int)) (by simp [ints, hk])
  exact ⟨b, off, e, (hb.cell (p := ⟨b, off + k, none⟩) (cell_block_lt h1)).trans h1⟩
set_option maxRecDepth 100000 in
set_option maxHeartbeats 1000000 in
theorem allPhony1_any (A : Option Addr) (n c : Nat) (out : List Gp) (R : List Row4) (X i : Nat) (w : World) (h : GpRd w A n c out R) (_hn : n ≤ 1000000) (hi : i < n) (hx : w.cell? ⟨X, 0, none⟩ = some (.slice A n c)) :
    Calls Try.prog 55 #[.int .i64 i, ptr X] w fun e w' => e = .returned (.bool (!phV out i)) ∧ Below w.heap.size w w' := by
  obtain ⟨x, hx4⟩ : ∃ x, R[i]? = some x := ⟨_, List.getElem?_eq_getElem (by rw [h.rows.1]; exact hi)⟩
  obtain ⟨g, hg⟩ : ∃ g, out[i]? = some g := ⟨_, List.getElem?_eq_getElem (by rw [h.len]; exact hi)⟩
  obtain ⟨b', off, rfl, _, c1, c2, c3, c4⟩ := h.rows.at_ hx4
  obtain ⟨-, -, -, e4⟩ := h.each i x g hx4 hg
  rw [e4] at c4
  have hp : phV out i = g.ph := by simp [phV, hg]
  rw [hp]
  have hkz : (i : Int) < (n : Int) := by omega
  generalize g.ph = y at c4
  clear hx4 hg e4 hp h c1 c2 c3
  go_enter Try.func55, Try.ntmps55
  go_wp2
  go_ret
  exact ⟨rfl, Below.refl _ _⟩
set_option maxRecDepth 100000 in
set_option maxHeartbeats 2000000 in
theorem indexI_any (X : Nat) (A Au : Option Addr) (n c m cu : Nat) (out : List Gp) (R : List Row4) (u : List Nat) (w : World) (h : GpRd w A n c out R) (hn : n ≤ 1000000) (hu : RdX w 1 Au m (ints u)) (hm : m ≤ 1000000) (hin : ∀ i ∈ u, i < n) (hx : w.cell? ⟨X, 0, none⟩ = some (.slice A n c)) (hX : X < w.heap.size) :
    Calls Try.prog 70 #[.slice Au m cu, apF X] w fun e w' => e = .returned (.int .i64 (idxV (u.findIdx? fun i => !phV out i))) ∧ Below w.heap.size w w' := by
  obtain ⟨r, hr⟩ : ∃ r, r = idxV (u.findIdx? fun i => !phV out i) := ⟨_, rfl⟩
  rw [← hr]
  have HH := Lib.hid h
  have HX := Lib.hid hx
  have HV := Lib.hid hr
  have HU := Lib.hid hu
  have HI := Lib.hid hin
  have HL := Lib.hid (show u.length = m by have := hu.1; simpa [ints] using this)
  clear h hx hr hu hin
  go_enter Try.func70, Try.ntmps70
  go_wp2
  go_loopw [8] (fun i wr => IxRel w u (fun i => !phV out i) m i wr) (fun i _ => m - (intOf i).toNat)
  case atStart => exact ⟨0, Nat.zero_le _, rfl, by simp, Below.refl _ _⟩
  case round =>
    obtain ⟨k, hk, rfl, hno, hb⟩ := hrel
    have HN := Lib.hid hno
    have HB := Lib.hid hb
    have hsz := hb.size
    clear hno hb
    by_cases hlt : k < m
    · obtain ⟨i, hi⟩ : ∃ i, u[k]? = some i := ⟨_, List.getElem?_eq_getElem (by rw [HL.out]; exact hlt)⟩
      obtain ⟨b2, o2, rfl, ci⟩ := ints_at HU.out HB.out hi
      have hkz : (k : Int) < (m : Int) := by omega
      obtain ⟨q1, q2⟩ := findIdx_next HN.out hi
      have Q1 := Lib.hid q1
      have Q2 := Lib.hid q2
      have hc := allPhony1_any A n c out R X i wr (HH.out.belowS HB.out) hn (HI.out i (List.mem_of_getElem? hi)) ((HB.out.cell (p := ⟨X, 0, none⟩) hX).trans HX.out)
      clear q1 q2 hi
      cases hb : phV out i with
      | false =>
        rw [hb] at hc
        have HC := Lib.hid hc
        clear hc
        have hf := Q1.out (by rw [hb]; rfl)
        have hv := HV.out
        rw [hf] at hv
        have hv' : r = (k : Int) := hv
        subst hv'
        clear hb hf hv HV Q1 Q2 HN
        go_wp2_with (go_at_call 55; refine HC.out.mono ?_; rintro e w2 ⟨rfl, hb2⟩; have HB2 := Lib.hid (HB.out.trans (hb2.mono hsz)); clear hb2)
        go_ret
        exact ⟨rfl, HB2.out⟩
      | true =>
        have HF := Lib.hid (Q2.out (by rw [hb]; rfl))
        rw [hb] at hc
        have HC := Lib.hid hc
        clear hb Q1 Q2 hc
        go_wp2_with (go_at_call 55; refine HC.out.mono ?_; rintro e w2 ⟨rfl, hb2⟩; have HB2 := Lib.hid (HB.out.trans (hb2.mono hsz)); clear hb2)
        go_roundw
        case rel => exact ⟨k + 1, by omega, by go_num, HF.out, HB2.out⟩
        case measure => simp [intOf]; omega
    · obtain rfl : k = m := by omega
      have hf := findIdx_end HN.out (by rw [HL.out]; exact Nat.le_refl _)
      have hv := HV.out
      rw [hf] at hv
      have hv' : r = -1 := hv
      subst hv'
      clear hf hv HV HN
      go_wp2
      go_ret
      exact ⟨rfl, HB.out⟩
theorem any_findIdx (u : List Nat) (p : Nat → Bool) : decide ((0 : Int) ≤ idxV (u.findIdx? p)) = u.any p := by
  cases h : u.findIdx? p with
  | none =>
    have : u.any p = false := by
      rw [List.findIdx?_eq_none_iff] at h
      exact List.any_eq_false.2 fun x hx => by rw [h x hx]; simp
    rw [this]; rfl
  | some k =>
    have : u.any p = true := by
      obtain ⟨hk, hp, _⟩ := List.findIdx?_eq_some_iff_getElem.1 h
      exact List.any_eq_true.2 ⟨_, List.getElem_mem hk, hp⟩
    rw [this]; exact decide_eq_true (by show (0 : Int) ≤ (k : Int); omega)
set_option maxRecDepth 100000 in
set_option maxHeartbeats 1000000 in
theorem containsI_any (X : Nat) (A Au : Option Addr) (n c m cu : Nat) (out : List Gp) (R : List Row4) (u : List Nat) (w : World) (h : GpRd w A n c out R) (hn : n ≤ 1000000) (hu : RdX w 1 Au m (ints u)) (hm : m ≤ 1000000) (hin : ∀ i ∈ u, i < n) (hx : w.cell? ⟨X, 0, none⟩ = some (.slice A n c)) (hX : X < w.heap.size) :
    Calls Try.prog 54 #[.slice Au m cu, apF X] w fun e w' => e = .returned (.bool (someB (phV out) u)) ∧ Below w.heap.size w w' := by
  have HC := Lib.hid (indexI_any X A Au n c m cu out R u w h hn hu hm hin hx hX)
  have hs : someB (phV out) u = decide ((0 : Int) ≤ idxV (u.findIdx? fun i => !phV out i)) := (any_findIdx u _).symm
  rw [hs]
  generalize idxV (u.findIdx? fun i => !phV out i) = r at HC
  clear h hu hin hx hs
  go_enter Try.func54, Try.ntmps54
  go_wp2_with fail
  refine HC.out.mono ?_
  rintro e w1 ⟨rfl, hb1⟩
  have HB1 := Lib.hid hb1
  clear hb1
  go_wp2
  go_ret
  exact ⟨rfl, HB1.out⟩
set_option maxRecDepth 100000 in
set_option maxHeartbeats 1000000 in
theorem allPhony_any (A Au : Option Addr) (n c m cu : Nat) (out : List Gp) (R : List Row4) (u : List Nat) (w : World) (h : GpRd w A n c out R) (hn : n ≤ 1000000) (hu : RdX w 1 Au m (ints u)) (hm : m ≤ 1000000) (hin : ∀ i ∈ u, i < n) :
    Calls Try.prog 35 #[.slice A n c, .slice Au m cu] w fun e w' => e = .returned (.bool (!someB (phV out) u)) ∧ Below w.heap.size w w' := by
  have hba : Below w.heap.size w (w.alloc (.cells #[.slice A n c] 39)) := (Below.refl _ _).alloc (Nat.le_refl _) _
  have hu2 : RdX (w.alloc (.cells #[.slice A n c] 39)) 1 Au m (ints u) := ⟨hu.1, hu.2.1, fun hm0 => by
    obtain ⟨b, off, e, hc⟩ := hu.2.2 hm0
    exact ⟨b, off, e, fun j v hv => (hba.cell (p := ⟨b, off + j, none⟩) (cell_block_lt (hc j v hv))).trans (hc j v hv)⟩⟩
  have HC := Lib.hid (containsI_any w.heap.size A Au n c m cu out R u _ (h.belowS hba) hn hu2 hm hin (by rw [World.cell?_alloc_at _ _ _ _ rfl]; rfl) (by simp))
  have HB := Lib.hid hba
  generalize someB (phV out) u = bb at *
  clear hba h hu hu2 hin
  go_enter Try.func35, Try.ntmps35
  go_wp2_with fail
  refine HC.out.mono ?_
  rintro e w1 ⟨rfl, hb1⟩
  have HB1 := Lib.hid (HB.out.trans (hb1.mono HB.out.size))
  clear hb1
  go_wp2
  go_ret
  exact ⟨rfl, HB1.out⟩
end Go.Proofs.Ytlkpbpecgdphaaa
