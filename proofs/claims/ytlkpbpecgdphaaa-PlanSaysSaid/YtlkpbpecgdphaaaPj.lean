/-
  WALK: plan.Stale.
-/
import Derived.Test.YtlkpbpecgdphaaaUn
import Derived.Test.YtlkpbpecgdphaaaPi
namespace Go.Proofs.Ytlkpbpecgdphaaa
open Go.RowKit

abbrev tBo : TypeId := 4
/-- What walks over groups ask of their sizes. -/
def GsOk (gs : List Gp) : Prop := ∀ g ∈ gs, g.tg.length ≤ 1000 ∧ g.nd.length ≤ 1000 ∧ g.cm.length ≤ 1000 ∧ ∀ x ∈ g.tg, x.size ≤ 1000000
theorem gcells_take {R : List Row4} {k : Nat} {j : Nat} {u : Value} (h : (gcells (R.take k))[j]? = some u) : (gcells R)[j]? = some u := by
  have e : gcells R = gcells (R.take k) ++ gcells (R.drop k) := by rw [← gcells_append, List.take_append_drop]
  rw [e, List.getElem?_append_left (List.getElem?_eq_some_iff.1 h).1]
  exact h
theorem GpRd.first {w : World} {A : Option Addr} {n c k : Nat} {gs : List Gp} {R : List Row4} (h : GpRd w A n c gs R) (hk : k ≤ n) : GpRd w A k c (gs.take k) (R.take k) := by
  refine ⟨⟨by rw [List.length_take, h.rows.1]; omega, Nat.le_trans hk h.rows.2.1, h.rows.2.2.1, fun h0 => ?_⟩, by rw [List.length_take, h.len]; omega, fun i x g hx hg => ?_⟩
  · obtain ⟨b, off, e, hb, hc⟩ := h.rows.2.2.2 (by omega)
    exact ⟨b, off, e, hb, fun j u hu => hc j u (gcells_take hu)⟩
  · rw [List.getElem?_take] at hx hg
    split at hx
    · rename_i hi
      rw [if_pos hi] at hg
      exact h.each i x g hx hg
    · cases hx
theorem make_bools (w : World) (n : Nat) (hn : n ≤ 10000) : (Instr.makeSlice 24 (.int .i64 n) (.int .i64 n)).run Try.prog w = .ok (.slice (some ⟨w.heap.size, 0, none⟩) n n) (w.alloc (.cells (Array.replicate n (.bool false)) tBo)) := by
  have hz1 : Try.t4.size = 1 := by kernel_rfl
  have hz2 : Try.t4.bytes = 1 := by kernel_rfl
  have h := run_makeSlice (P := Try.prog) w 24 4 Try.t4 (.bool false) Try.underlying24 (by kernel_rfl) (by kernel_rfl) .i64 .i64 n n (by omega) (by omega) (by rw [hz1]; simp; omega) (by rw [hz2]; omega) (by omega)
  rw [h]
  have hcs : madeCells (Value.bool false).cells ((n : Int).toNat * Try.t4.size) = Array.replicate n (Value.bool false) := by
    rw [hz1]
    simp only [madeCells, Int.toNat_natCast, Nat.mul_one]
    apply Array.ext
    · simp
    · intro i h1 h2
      simp [Value.cells, Nat.mod_one]
  rw [hcs]
  rfl
def bArr (st : List Bool) : Array Value := (bcells st).toArray
/-- The answers so far; the rest are false. -/
def stL (K : Kp) (l : List F) (gs : List Gp) (n k : Nat) : List Bool := staleUpto K l gs k ++ List.replicate (n - k) false
theorem stL_len (K : Kp) (l : List F) (gs : List Gp) {n k : Nat} (h : k ≤ n) : (stL K l gs n k).length = n := by simp [stL, staleUpto_len]; omega
theorem stL_zero (K : Kp) (l : List F) (gs : List Gp) (n : Nat) : bArr (stL K l gs n 0) = Array.replicate n (.bool false) := by simp [bArr, stL, staleUpto, bcells]
theorem stL_end (K : Kp) (l : List F) (gs : List Gp) {n : Nat} (h : gs.length = n) : stL K l gs n n = staleR K l gs := by simp [stL, staleR, h]
theorem stL_succ (K : Kp) (l : List F) (gs : List Gp) {n k : Nat} {g : Gp} (h : k < n) (hg : gs[k]? = some g) : stL K l gs n (k + 1) = (stL K l gs n k).set k (staleG K l (gs.take k) (staleUpto K l gs k) g) := by
  have e2 : List.replicate (n - k) false = false :: List.replicate (n - (k + 1)) false := by rw [show n - k = (n - (k + 1)) + 1 by omega]; rfl
  unfold stL
  rw [e2, List.set_append_right _ _ (by rw [staleUpto_len]; exact Nat.le_refl _), staleUpto_len, Nat.sub_self]
  simp [staleUpto, hg]
theorem bArr_set (st : List Bool) (i : Nat) (b : Bool) : (bArr st).setIfInBounds i (.bool b) = bArr (st.set i b) := by simp [bArr, bcells, List.map_set]
theorem bArr_rdx {w : World} {b : Nat} {st : List Bool} (h : Blk w b tBo (bArr st)) : RdX w 1 (some ⟨b, 0, none⟩) st.length (bcells st) :=
  ⟨by simp [bcells], fun u hu => by obtain ⟨x, _, rfl⟩ := List.mem_map.1 hu; rfl, fun _ => ⟨b, 0, rfl, fun j u hu => by rw [Nat.zero_add, h.cell]; simpa [bArr] using hu⟩⟩
/-- Only the earlier groups' answers are asked. -/
theorem ndStale_low {K : Kp} {l : List F} {gs : List Gp} {n k : Nat} (_hk : k ≤ n) (nd : List ByteArray) : ndStale (gs.take k) (stL K l gs n k) nd = ndStale (gs.take k) (staleUpto K l gs k) nd := by
  have e : ∀ t, nd1 (gs.take k) (stL K l gs n k) t = nd1 (gs.take k) (staleUpto K l gs k) t := fun t => by
    unfold nd1
    cases hm : makerO (gs.take k) t with
    | none => rfl
    | some a =>
      have ha := makerO_lt hm
      have : a < k := by rw [List.length_take] at ha; omega
      simp only [stL, List.getD_eq_getElem?_getD]
      rw [List.getElem?_append_left (by rw [staleUpto_len]; exact this)]
  rw [ndStale_eq, ndStale_eq]
  exact congrArg (nd.any ·) (funext e)
def SjRel (w : World) (n : Nat) (K : Kp) (l : List F) (gs : List Gp) (i : Value) (wr : World) : Prop :=
  ∃ k : Nat, k ≤ n ∧ i = .int .i64 k ∧ Below w.heap.size w wr ∧ Blk wr w.heap.size tBo (bArr (stL K l gs n k))
set_option maxRecDepth 100000 in
set_option maxHeartbeats 8000000 in
theorem stale_any (vk : Value) (N : Nat) (K : Kp) (A AL : Option Addr) (n c nL cL : Nat) (gs : List Gp) (R : List Row4) (l : List F) (w : World) (h : GpRd w A n c gs R) (hk : KpM w vk N K) (hF : FewK K) (hl : RdF w w.heap.size AL nL cL l) (hs : Rises l) (hG : GsOk gs) (hn : n ≤ 10000) (hL : nL ≤ 1000) :
    Calls Try.prog 9 #[.slice A n c, .slice AL nL cL, vk] w fun e w' => e = .returned (.slice (some ⟨w.heap.size, 0, none⟩) n n) ∧ Blk w' w.heap.size tBo (bArr (staleR K l gs)) ∧ Below w.heap.size w w' := by
  have hmk := make_bools w n hn
  have HG := Lib.hid h
  have HGL := Lib.hid h.len
  have HGS := Lib.hid hG
  have HFR := Lib.hid (fun (W : World) (hb : Below w.heap.size w W) (g : Gp) (At An Ac : Option Addr) (nt ct nn cn nc cc : Nat) (ht : RdS W W.heap.size At nt ct g.tg) (hd : RdS W W.heap.size An nn cn g.nd) (hc : RdS W W.heap.size Ac nc cc g.cm) (h1 : nt ≤ 1000) (h2 : nn ≤ 1000) (h3 : nc ≤ 1000) (h4 : ∀ x ∈ g.tg, x.size ≤ maxLen) =>
    fresh_any vk N K At An Ac AL nt ct nn cn nc cc nL cL g l W (hk.below hb) hF ht hd hc (RdF.belowS hl hb) hs h4 h1 h2 h3 hL)
  clear h hk hF hl hs hG
  go_enter Try.func9, Try.ntmps9
  go_wp2
  go_loopw [15] (fun i wr => SjRel w n K l gs i wr) (fun i _ => n - (intOf i).toNat)
  case atStart => exact ⟨0, Nat.zero_le _, by go_num, (Below.refl _ _).alloc (Nat.le_refl _) _, by rw [stL_zero]; exact Blk.new _ _ _⟩
  case round =>
    obtain ⟨k, hk, rfl, hb, hbk⟩ := hrel
    have HB := Lib.hid hb
    have HBK := Lib.hid hbk
    clear hb hbk
    by_cases hlt : k < n
    · have hkz : (k : Int) < (n : Int) := by omega
      have hgp := HG.out.belowS HB.out
      obtain ⟨x, hx⟩ : ∃ x, R[k]? = some x := ⟨_, List.getElem?_eq_getElem (by rw [hgp.rows.1]; exact hlt)⟩
      obtain ⟨g, hg⟩ : ∃ g, gs[k]? = some g := ⟨_, List.getElem?_eq_getElem (by rw [HGL.out]; exact hlt)⟩
      obtain ⟨b', off, rfl, hb5, hc1, hc2, hc3, hc4⟩ := hgp.rows.at_ hx
      obtain ⟨⟨At, ct, e1, -⟩, ⟨An, cn, e2, -⟩, ⟨Ac, cc, e3, -⟩, e4⟩ := hgp.each k x g hx hg
      obtain ⟨x1, x2, x3, x4⟩ := x
      dsimp only at e1 e2 e3 e4 hc1 hc2 hc3 hc4
      subst e1 e2 e3 e4
      have hgo := HGS.out g (List.mem_of_getElem? hg)
      have HX := Lib.hid hx
      have HGG := Lib.hid hg
      have HRD := Lib.hid (fun (W : World) (hb : Below w.heap.size w W) => show RdS W W.heap.size At g.tg.length ct g.tg ∧ RdS W W.heap.size An g.nd.length cn g.nd ∧ RdS W W.heap.size Ac g.cm.length cc g.cm from by
        obtain ⟨⟨At', ct', e1, r1⟩, ⟨An', cn', e2, r2⟩, ⟨Ac', cc', e3, r3⟩, -⟩ := (HG.out.belowS hb).each k _ g HX.out HGG.out
        injection e1 with e1 _ e1'
        injection e2 with e2 _ e2'
        injection e3 with e3 _ e3'
        subst e1 e1' e2 e2' e3 e3'
        exact ⟨r1, r2, r3⟩)
      have HSN := Lib.hid (stL_succ K l gs hlt hg)
      have hba : Below wr.heap.size wr (wr.alloc (.cells #[.slice At g.tg.length ct, .slice An g.nd.length cn, .slice Ac g.cm.length cc, .bool g.ph] tGr)) := (Below.refl _ _).alloc (Nat.le_refl _) _
      have pg := Blk.new wr tGr #[.slice At g.tg.length ct, .slice An g.nd.length cn, .slice Ac g.cm.length cc, .bool g.ph]
      have hbk2 := HBK.out.low hba
      have hb2 := HB.out.trans (hba.mono HB.out.size)
      have hwl := HBK.out.lt
      have HNS := Lib.hid (fun (W : World) (hb : Below w.heap.size w W) (hbW : Blk W w.heap.size tBo (bArr (stL K l gs n k))) => show Calls Try.prog 24 #[.agg #[.slice At g.tg.length ct, .slice An g.nd.length cn, .slice Ac g.cm.length cc, .bool g.ph], .slice (some ⟨b', off, none⟩) k c, .slice (some ⟨w.heap.size, 0, none⟩) n n] W (fun e w' => e = .returned (.bool (ndStale (gs.take k) (staleUpto K l gs k) g.nd)) ∧ Below W.heap.size W w') from by
        rw [← ndStale_low (n := n) (by omega)]
        have hrx := bArr_rdx hbW
        rw [stL_len K l gs hk] at hrx
        exact needsStale_any (some ⟨b', off, none⟩) (some ⟨w.heap.size, 0, none⟩) At An Ac k c n n g.tg.length ct g.nd.length cn g.cm.length cc g.ph (gs.take k) (R.take k) (stL K l gs n k) g.nd W ((HG.out.belowS hb).first hk) (by omega) (fun g' hg' => (HGS.out g' (List.mem_of_mem_take hg')).1) hrx hk (HRD.out W hb).2.1 (by omega))
      have HFW := Lib.hid (fun (W : World) (hb : Below w.heap.size w W) => HFR.out W hb g At An Ac _ ct _ cn _ cc (HRD.out W hb).1 (HRD.out W hb).2.1 (HRD.out W hb).2.2 hgo.1 hgo.2.1 hgo.2.2.1 (fun x hx => Nat.le_trans (hgo.2.2.2 x hx) (by unfold maxLen; omega)))
      have HST := Lib.hid (show staleG K l (gs.take k) (staleUpto K l gs k) g = ((!g.ph && !freshR K l g) || ndStale (gs.take k) (staleUpto K l gs k) g.nd) from rfl)
      rw [HST.out] at HSN
      have HB2 := Lib.hid hb2
      have HBK2 := Lib.hid hbk2
      obtain ⟨g0, g1, g2, g3⟩ := cells4 pg
      have HPG := Lib.hid pg
      have c0 : ∃ u, wr.cell? ⟨w.heap.size, k, none⟩ = some u := by
        rw [HBK.out.cell]
        exact ⟨_, Array.getElem?_eq_getElem (by simp [bArr, bcells, stL_len K l gs hk]; exact hlt)⟩
      obtain ⟨u0, c0⟩ := c0
      have hkc : k ≤ c := by have := hgp.rows.2.1; omega
      have hkcz : (k : Int) ≤ (c : Int) := by omega
      have hkzz : (0 : Int) ≤ (k : Int) := by omega
      clear hx hg hgp hgo hba hbk2 hb2 pg HST HGS HRD HFR
      generalize ndStale (gs.take k) (staleUpto K l gs k) g.nd = nd at *
      generalize freshR K l g = fr at *
      generalize g.ph = ph at *
      cases ph with
      | true =>
        go_wp2_with fail
        refine wp_region_any (by kernel_rfl) ?_
        change wpAny _ _ _ _ _ _ _ (World.drew _)
        refine wpAny_take (i := 0) (v := ?_) rfl (by kernel_rfl) (by kernel_rfl) (by kernel_rfl) (fun _ _ _ h => h) (Or.inl ⟨by rfl, ?_⟩) ?_
        rotate_left
        · (intro w0; go_simp; try with_reducible rfl)
        refine wpAny_take (i := 1) (v := ?_) rfl (by kernel_rfl) (by kernel_rfl) (by kernel_rfl) (fun _ _ _ h => h) (Or.inl ⟨by rfl, ?_⟩) ?_
        rotate_left
        · (intro w0; go_simp; try with_reducible rfl)
        refine wpAny_take (i := 2) (v := ?_) rfl (by kernel_rfl) (by kernel_rfl) (by kernel_rfl) (fun _ _ _ h => h) (Or.inl ⟨by rfl, ?_⟩) ?_
        rotate_left
        · (intro w0; go_simp; try with_reducible rfl)
        refine wpAny_ready (rs := [3]) (by kernel_rfl) (by simp) ?_
        refine AllReady.cons rfl (fun Kc hKc => ?_) AllReady.nil
        go_simp
        refine hKc _ _ ?_
        clear hKc Kc
        refine wpAny_take (i := 4) (v := ?_) rfl (by kernel_rfl) (by kernel_rfl) (by kernel_rfl) (fun _ _ _ h => h) (Or.inl ⟨by rfl, ?_⟩) ?_
        rotate_left
        · (intro w0; go_simp; try with_reducible rfl)
        refine wpAny_take (i := 5) (v := ?_) rfl (by kernel_rfl) (by kernel_rfl) (by kernel_rfl) (fun _ _ _ h => h) (Or.inl ⟨by rfl, ?_⟩) ?_
        rotate_left
        · (intro w0; go_simp; try with_reducible rfl)
        refine wpAny_take (i := 7) (v := undef) rfl (by kernel_rfl) (by kernel_rfl) (by kernel_rfl) (fun _ _ _ h => h) (Or.inr ⟨by rfl, rfl⟩) ?_
        refine wpAny_take (i := 8) (v := undef) rfl (by kernel_rfl) (by kernel_rfl) (by kernel_rfl) (fun _ _ _ h => h) (Or.inr ⟨by rfl, rfl⟩) ?_
        refine wpAny_ready (rs := [6]) (by kernel_rfl) (by simp) ?_
        refine AllReady.cons rfl (fun Kc hKc => ?_) AllReady.nil
        go_simp
        refine hKc _ _ ?_
        clear hKc Kc
        refine wpAny_ready (rs := [9]) (by kernel_rfl) (by simp) ?_
        refine AllReady.cons rfl (fun Kc hKc => ?_) AllReady.nil
        go_simp
        refine hKc _ _ ?_
        clear hKc Kc
        refine wpAny_take (i := 10) (v := undef) rfl (by kernel_rfl) (by kernel_rfl) (by kernel_rfl) (fun _ _ _ h => h) (Or.inr ⟨by rfl, rfl⟩) ?_
        refine wpAny_take (i := 11) (v := ?_) rfl (by kernel_rfl) (by kernel_rfl) (by kernel_rfl) (fun _ _ _ h => h) (Or.inl ⟨by rfl, ?_⟩) ?_
        rotate_left
        · (intro w0; go_simp; try with_reducible rfl)
        refine wpAny_take (i := 12) (v := ?_) rfl (by kernel_rfl) (by kernel_rfl) (by kernel_rfl) (fun _ _ _ h => h) (Or.inl ⟨by rfl, ?_⟩) ?_
        rotate_left
        · (intro w0; go_simp; try with_reducible rfl)
        refine wpAny_take (i := 14) (v := ?_) rfl (by kernel_rfl) (by kernel_rfl) (by kernel_rfl) (fun _ _ _ h => h) (Or.inl ⟨by rfl, ?_⟩) ?_
        rotate_left
        · (intro w0; go_simp; try with_reducible rfl)
        refine wpAny_take (i := 15) (v := ?_) rfl (by kernel_rfl) (by kernel_rfl) (by kernel_rfl) (fun _ _ _ h => h) (Or.inl ⟨by rfl, ?_⟩) ?_
        rotate_left
        · (intro w0; go_simp; try with_reducible rfl)
        refine wpAny_take (i := 16) (v := ?_) rfl (by kernel_rfl) (by kernel_rfl) (by kernel_rfl) (fun _ _ _ h => h) (Or.inl ⟨by rfl, ?_⟩) ?_
        rotate_left
        · (intro w0; go_simp; try with_reducible rfl)
        refine wpAny_take (i := 17) (v := ?_) rfl (by kernel_rfl) (by kernel_rfl) (by kernel_rfl) (fun _ _ _ h => h) (Or.inl ⟨by rfl, ?_⟩) ?_
        rotate_left
        · (intro w0; go_simp; try with_reducible rfl)
        refine wpAny_ready (rs := [13]) (by kernel_rfl) (by simp) ?_
        refine AllReady.cons rfl (fun Kc hKc => ?_) AllReady.nil
        go_simp
        refine hKc _ _ ?_
        clear hKc Kc
        refine wpAny_ready (rs := [18]) (by kernel_rfl) (by simp) ?_
        refine AllReady.cons rfl (fun Kc hKc => ?_) AllReady.nil
        go_simp
        go_wp2_with (go_at_call 24; refine (HNS.out _ HB2.out.drew HBK2.out.drew).mono ?_; rintro e w7 ⟨rfl, hb7⟩; have HB7 := Lib.hid (HB2.out.drew.trans (hb7.mono HB2.out.drew.size)); have HK7 := Lib.hid (HBK2.out.drew.low hb7); have z7 := HK7.out.free k; have c7 : ∃ u, w7.cell? ⟨w.heap.size, k, none⟩ = some u := (by rw [HK7.out.cell]; exact ⟨_, Array.getElem?_eq_getElem (by simp [bArr, bcells, stL_len K l gs hk]; exact hlt)⟩); obtain ⟨u7, c7⟩ := c7; clear hb7)
        try (refine hKc _ _ ?_; clear hKc Kc)
        refine wpAny_take (i := 19) (v := ?_) rfl (by kernel_rfl) (by kernel_rfl) (by kernel_rfl) (fun _ _ _ h => h) (Or.inl ⟨by rfl, ?_⟩) ?_
        rotate_left
        · (intro w0; go_simp; try with_reducible rfl)
        refine wpAny_take (i := 20) (v := ?_) rfl (by kernel_rfl) (by kernel_rfl) (by kernel_rfl) (fun _ _ _ h => h) (Or.inl ⟨by rfl, ?_⟩) ?_
        rotate_left
        · (intro w0; go_simp; try with_reducible rfl)
        refine wpAny_ready (rs := [21]) (by kernel_rfl) (by simp) ?_
        refine AllReady.cons rfl (fun Kc hKc => ?_) AllReady.nil
        go_simp
        refine hKc _ _ ?_
        clear hKc Kc
        refine wpAny_done (by kernel_rfl) ?_ _
        go_wp2
        go_roundw
        case rel => exact ⟨k + 1, by omega, by go_num, HB7.out.setCell (p := ⟨w.heap.size, k, none⟩) (Nat.le_refl _) _, by rw [HSN.out, ← bArr_set]; exact HK7.out.set k _⟩
        case measure => simp [intOf]; omega
      | false =>
        cases fr with
        | false =>
          go_wp2_with fail
          refine wp_region_any (by kernel_rfl) ?_
          change wpAny _ _ _ _ _ _ _ (World.drew _)
          refine wpAny_take (i := 0) (v := ?_) rfl (by kernel_rfl) (by kernel_rfl) (by kernel_rfl) (fun _ _ _ h => h) (Or.inl ⟨by rfl, ?_⟩) ?_
          rotate_left
          · (intro w0; go_simp; try with_reducible rfl)
          refine wpAny_take (i := 1) (v := ?_) rfl (by kernel_rfl) (by kernel_rfl) (by kernel_rfl) (fun _ _ _ h => h) (Or.inl ⟨by rfl, ?_⟩) ?_
          rotate_left
          · (intro w0; go_simp; try with_reducible rfl)
          refine wpAny_take (i := 2) (v := ?_) rfl (by kernel_rfl) (by kernel_rfl) (by kernel_rfl) (fun _ _ _ h => h) (Or.inl ⟨by rfl, ?_⟩) ?_
          rotate_left
          · (intro w0; go_simp; try with_reducible rfl)
          refine wpAny_ready (rs := [3]) (by kernel_rfl) (by simp) ?_
          refine AllReady.cons rfl (fun Kc hKc => ?_) AllReady.nil
          go_simp
          refine hKc _ _ ?_
          clear hKc Kc
          refine wpAny_take (i := 4) (v := ?_) rfl (by kernel_rfl) (by kernel_rfl) (by kernel_rfl) (fun _ _ _ h => h) (Or.inl ⟨by rfl, ?_⟩) ?_
          rotate_left
          · (intro w0; go_simp; try with_reducible rfl)
          refine wpAny_take (i := 5) (v := ?_) rfl (by kernel_rfl) (by kernel_rfl) (by kernel_rfl) (fun _ _ _ h => h) (Or.inl ⟨by rfl, ?_⟩) ?_
          rotate_left
          · (intro w0; go_simp; try with_reducible rfl)
          refine wpAny_take (i := 7) (v := ?_) rfl (by kernel_rfl) (by kernel_rfl) (by kernel_rfl) (fun _ _ _ h => h) (Or.inl ⟨by rfl, ?_⟩) ?_
          rotate_left
          · (intro w0; go_simp; try with_reducible rfl)
          refine wpAny_take (i := 8) (v := ?_) rfl (by kernel_rfl) (by kernel_rfl) (by kernel_rfl) (fun _ _ _ h => h) (Or.inl ⟨by rfl, ?_⟩) ?_
          rotate_left
          · (intro w0; go_simp; try with_reducible rfl)
          refine wpAny_ready (rs := [6]) (by kernel_rfl) (by simp) ?_
          refine AllReady.cons rfl (fun Kc hKc => ?_) AllReady.nil
          go_simp
          refine hKc _ _ ?_
          clear hKc Kc
          refine wpAny_ready (rs := [9]) (by kernel_rfl) (by simp) ?_
          refine AllReady.cons rfl (fun Kc hKc => ?_) AllReady.nil
          go_simp
          go_wp2_with (go_at_call 23; refine (HFW.out _ HB2.out.drew).mono ?_; rintro e w6 ⟨rfl, hb6⟩; have HB6 := Lib.hid (HB2.out.drew.trans (hb6.mono HB2.out.drew.size)); have HK6 := Lib.hid (HBK2.out.drew.low hb6); have z7 := HK6.out.free k; have c7 : ∃ u, w6.cell? ⟨w.heap.size, k, none⟩ = some u := (by rw [HK6.out.cell]; exact ⟨_, Array.getElem?_eq_getElem (by simp [bArr, bcells, stL_len K l gs hk]; exact hlt)⟩); obtain ⟨u7, c7⟩ := c7; obtain ⟨k0, k1, k2, k3⟩ := cells4 (HPG.out.drew.low hb6); clear hb6)
          try (refine hKc _ _ ?_; clear hKc Kc)
          refine wpAny_take (i := 10) (v := ?_) rfl (by kernel_rfl) (by kernel_rfl) (by kernel_rfl) (fun _ _ _ h => h) (Or.inl ⟨by rfl, ?_⟩) ?_
          rotate_left
          · (intro w0; go_simp; try with_reducible rfl)
          refine wpAny_take (i := 11) (v := ?_) rfl (by kernel_rfl) (by kernel_rfl) (by kernel_rfl) (fun _ _ _ h => h) (Or.inl ⟨by rfl, ?_⟩) ?_
          rotate_left
          · (intro w0; go_simp; try with_reducible rfl)
          refine wpAny_take (i := 12) (v := ?_) rfl (by kernel_rfl) (by kernel_rfl) (by kernel_rfl) (fun _ _ _ h => h) (Or.inl ⟨by rfl, ?_⟩) ?_
          rotate_left
          · (intro w0; go_simp; try with_reducible rfl)
          refine wpAny_take (i := 14) (v := undef) rfl (by kernel_rfl) (by kernel_rfl) (by kernel_rfl) (fun _ _ _ h => h) (Or.inr ⟨by rfl, rfl⟩) ?_
          refine wpAny_take (i := 15) (v := undef) rfl (by kernel_rfl) (by kernel_rfl) (by kernel_rfl) (fun _ _ _ h => h) (Or.inr ⟨by rfl, rfl⟩) ?_
          refine wpAny_take (i := 16) (v := undef) rfl (by kernel_rfl) (by kernel_rfl) (by kernel_rfl) (fun _ _ _ h => h) (Or.inr ⟨by rfl, rfl⟩) ?_
          refine wpAny_take (i := 17) (v := undef) rfl (by kernel_rfl) (by kernel_rfl) (by kernel_rfl) (fun _ _ _ h => h) (Or.inr ⟨by rfl, rfl⟩) ?_
          refine wpAny_ready (rs := [13]) (by kernel_rfl) (by simp) ?_
          refine AllReady.cons rfl (fun Kc hKc => ?_) AllReady.nil
          go_simp
          refine hKc _ _ ?_
          clear hKc Kc
          refine wpAny_ready (rs := [18]) (by kernel_rfl) (by simp) ?_
          refine AllReady.cons rfl (fun Kc hKc => ?_) AllReady.nil
          go_simp
          refine hKc _ _ ?_
          clear hKc Kc
          refine wpAny_take (i := 19) (v := ?_) rfl (by kernel_rfl) (by kernel_rfl) (by kernel_rfl) (fun _ _ _ h => h) (Or.inl ⟨by rfl, ?_⟩) ?_
          rotate_left
          · (intro w0; go_simp; try with_reducible rfl)
          refine wpAny_take (i := 20) (v := ?_) rfl (by kernel_rfl) (by kernel_rfl) (by kernel_rfl) (fun _ _ _ h => h) (Or.inl ⟨by rfl, ?_⟩) ?_
          rotate_left
          · (intro w0; go_simp; try with_reducible rfl)
          refine wpAny_ready (rs := [21]) (by kernel_rfl) (by simp) ?_
          refine AllReady.cons rfl (fun Kc hKc => ?_) AllReady.nil
          go_simp
          refine hKc _ _ ?_
          clear hKc Kc
          refine wpAny_done (by kernel_rfl) ?_ _
          go_wp2
          go_roundw
          case rel => exact ⟨k + 1, by omega, by go_num, HB6.out.setCell (p := ⟨w.heap.size, k, none⟩) (Nat.le_refl _) _, by rw [HSN.out, ← bArr_set]; exact HK6.out.set k _⟩
          case measure => simp [intOf]; omega
        | true =>
          go_wp2_with fail
          refine wp_region_any (by kernel_rfl) ?_
          change wpAny _ _ _ _ _ _ _ (World.drew _)
          refine wpAny_take (i := 0) (v := ?_) rfl (by kernel_rfl) (by kernel_rfl) (by kernel_rfl) (fun _ _ _ h => h) (Or.inl ⟨by rfl, ?_⟩) ?_
          rotate_left
          · (intro w0; go_simp; try with_reducible rfl)
          refine wpAny_take (i := 1) (v := ?_) rfl (by kernel_rfl) (by kernel_rfl) (by kernel_rfl) (fun _ _ _ h => h) (Or.inl ⟨by rfl, ?_⟩) ?_
          rotate_left
          · (intro w0; go_simp; try with_reducible rfl)
          refine wpAny_take (i := 2) (v := ?_) rfl (by kernel_rfl) (by kernel_rfl) (by kernel_rfl) (fun _ _ _ h => h) (Or.inl ⟨by rfl, ?_⟩) ?_
          rotate_left
          · (intro w0; go_simp; try with_reducible rfl)
          refine wpAny_ready (rs := [3]) (by kernel_rfl) (by simp) ?_
          refine AllReady.cons rfl (fun Kc hKc => ?_) AllReady.nil
          go_simp
          refine hKc _ _ ?_
          clear hKc Kc
          refine wpAny_take (i := 4) (v := ?_) rfl (by kernel_rfl) (by kernel_rfl) (by kernel_rfl) (fun _ _ _ h => h) (Or.inl ⟨by rfl, ?_⟩) ?_
          rotate_left
          · (intro w0; go_simp; try with_reducible rfl)
          refine wpAny_take (i := 5) (v := ?_) rfl (by kernel_rfl) (by kernel_rfl) (by kernel_rfl) (fun _ _ _ h => h) (Or.inl ⟨by rfl, ?_⟩) ?_
          rotate_left
          · (intro w0; go_simp; try with_reducible rfl)
          refine wpAny_take (i := 7) (v := ?_) rfl (by kernel_rfl) (by kernel_rfl) (by kernel_rfl) (fun _ _ _ h => h) (Or.inl ⟨by rfl, ?_⟩) ?_
          rotate_left
          · (intro w0; go_simp; try with_reducible rfl)
          refine wpAny_take (i := 8) (v := ?_) rfl (by kernel_rfl) (by kernel_rfl) (by kernel_rfl) (fun _ _ _ h => h) (Or.inl ⟨by rfl, ?_⟩) ?_
          rotate_left
          · (intro w0; go_simp; try with_reducible rfl)
          refine wpAny_ready (rs := [6]) (by kernel_rfl) (by simp) ?_
          refine AllReady.cons rfl (fun Kc hKc => ?_) AllReady.nil
          go_simp
          refine hKc _ _ ?_
          clear hKc Kc
          refine wpAny_ready (rs := [9]) (by kernel_rfl) (by simp) ?_
          refine AllReady.cons rfl (fun Kc hKc => ?_) AllReady.nil
          go_simp
          go_wp2_with (go_at_call 23; refine (HFW.out _ HB2.out.drew).mono ?_; rintro e w6 ⟨rfl, hb6⟩; have HB6 := Lib.hid (HB2.out.drew.trans (hb6.mono HB2.out.drew.size)); have HK6 := Lib.hid (HBK2.out.drew.low hb6); have z7 := HK6.out.free k; have c7 : ∃ u, w6.cell? ⟨w.heap.size, k, none⟩ = some u := (by rw [HK6.out.cell]; exact ⟨_, Array.getElem?_eq_getElem (by simp [bArr, bcells, stL_len K l gs hk]; exact hlt)⟩); obtain ⟨u7, c7⟩ := c7; obtain ⟨k0, k1, k2, k3⟩ := cells4 (HPG.out.drew.low hb6); clear hb6)
          try (refine hKc _ _ ?_; clear hKc Kc)
          refine wpAny_take (i := 10) (v := ?_) rfl (by kernel_rfl) (by kernel_rfl) (by kernel_rfl) (fun _ _ _ h => h) (Or.inl ⟨by rfl, ?_⟩) ?_
          rotate_left
          · (intro w0; go_simp; try with_reducible rfl)
          refine wpAny_take (i := 11) (v := ?_) rfl (by kernel_rfl) (by kernel_rfl) (by kernel_rfl) (fun _ _ _ h => h) (Or.inl ⟨by rfl, ?_⟩) ?_
          rotate_left
          · (intro w0; go_simp; try with_reducible rfl)
          refine wpAny_take (i := 12) (v := ?_) rfl (by kernel_rfl) (by kernel_rfl) (by kernel_rfl) (fun _ _ _ h => h) (Or.inl ⟨by rfl, ?_⟩) ?_
          rotate_left
          · (intro w0; go_simp; try with_reducible rfl)
          refine wpAny_take (i := 14) (v := ?_) rfl (by kernel_rfl) (by kernel_rfl) (by kernel_rfl) (fun _ _ _ h => h) (Or.inl ⟨by rfl, ?_⟩) ?_
          rotate_left
          · (intro w0; go_simp; try with_reducible rfl)
          refine wpAny_take (i := 15) (v := ?_) rfl (by kernel_rfl) (by kernel_rfl) (by kernel_rfl) (fun _ _ _ h => h) (Or.inl ⟨by rfl, ?_⟩) ?_
          rotate_left
          · (intro w0; go_simp; try with_reducible rfl)
          refine wpAny_take (i := 16) (v := ?_) rfl (by kernel_rfl) (by kernel_rfl) (by kernel_rfl) (fun _ _ _ h => h) (Or.inl ⟨by rfl, ?_⟩) ?_
          rotate_left
          · (intro w0; go_simp; try with_reducible rfl)
          refine wpAny_take (i := 17) (v := ?_) rfl (by kernel_rfl) (by kernel_rfl) (by kernel_rfl) (fun _ _ _ h => h) (Or.inl ⟨by rfl, ?_⟩) ?_
          rotate_left
          · (intro w0; go_simp; try with_reducible rfl)
          refine wpAny_ready (rs := [13]) (by kernel_rfl) (by simp) ?_
          refine AllReady.cons rfl (fun Kc hKc => ?_) AllReady.nil
          go_simp
          refine hKc _ _ ?_
          clear hKc Kc
          refine wpAny_ready (rs := [18]) (by kernel_rfl) (by simp) ?_
          refine AllReady.cons rfl (fun Kc hKc => ?_) AllReady.nil
          go_simp
          go_wp2_with (go_at_call 24; refine (HNS.out _ HB6.out HK6.out).mono ?_; rintro e w7 ⟨rfl, hb7⟩; have HB7 := Lib.hid (HB6.out.trans (hb7.mono HB6.out.size)); have HK7 := Lib.hid (HK6.out.low hb7); have z7 := HK7.out.free k; have c7 : ∃ u, w7.cell? ⟨w.heap.size, k, none⟩ = some u := (by rw [HK7.out.cell]; exact ⟨_, Array.getElem?_eq_getElem (by simp [bArr, bcells, stL_len K l gs hk]; exact hlt)⟩); obtain ⟨u7, c7⟩ := c7; clear hb7)
          try (refine hKc _ _ ?_; clear hKc Kc)
          refine wpAny_take (i := 19) (v := ?_) rfl (by kernel_rfl) (by kernel_rfl) (by kernel_rfl) (fun _ _ _ h => h) (Or.inl ⟨by rfl, ?_⟩) ?_
          rotate_left
          · (intro w0; go_simp; try with_reducible rfl)
          refine wpAny_take (i := 20) (v := ?_) rfl (by kernel_rfl) (by kernel_rfl) (by kernel_rfl) (fun _ _ _ h => h) (Or.inl ⟨by rfl, ?_⟩) ?_
          rotate_left
          · (intro w0; go_simp; try with_reducible rfl)
          refine wpAny_ready (rs := [21]) (by kernel_rfl) (by simp) ?_
          refine AllReady.cons rfl (fun Kc hKc => ?_) AllReady.nil
          go_simp
          refine hKc _ _ ?_
          clear hKc Kc
          refine wpAny_done (by kernel_rfl) ?_ _
          go_wp2
          go_roundw
          case rel => exact ⟨k + 1, by omega, by go_num, HB7.out.setCell (p := ⟨w.heap.size, k, none⟩) (Nat.le_refl _) _, by rw [HSN.out, ← bArr_set]; exact HK7.out.set k _⟩
          case measure => simp [intOf]; omega
    · obtain rfl : k = n := by omega
      go_wp2
      go_ret
      exact ⟨rfl, by rw [← stL_end K l gs HGL.out]; exact HBK.out, HB.out⟩
end Go.Proofs.Ytlkpbpecgdphaaa
