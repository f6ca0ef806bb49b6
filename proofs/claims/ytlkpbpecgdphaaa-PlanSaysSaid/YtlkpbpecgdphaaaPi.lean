/-
  WALKS: plan.needsStale: is one of the needs made by an earlier group that is stale.
-/
import Derived.Test.YtlkpbpecgdphaaaPg
import Derived.Test.YtlkpbpecgdphaaaUa
namespace Go.Proofs.Ytlkpbpecgdphaaa
open Go.RowKit

def nd1 (gs : List Gp) (st : List Bool) (t : ByteArray) : Bool := match makerO gs t with
  | some a => st.getD a false
  | none => false
theorem ndStale_eq (gs : List Gp) (st : List Bool) (nd : List ByteArray) : ndStale gs st nd = nd.any (nd1 gs st) := rfl
abbrev nsF (X Y : Nat) : Value := .func (.func 48) #[] #[ptr X, ptr Y]
set_option maxRecDepth 100000 in
set_option maxHeartbeats 2000000 in
theorem ns1_any (X Y : Nat) (A B : Option Addr) (n c m cb : Nat) (gs : List Gp) (R : List Row4) (st : List Bool) (t : ByteArray) (w : World) (h : GpRd w A n c gs R) (hn : n ≤ 1000000) (ht : ∀ g ∈ gs, g.tg.length ≤ 1000) (hs : RdX w 1 B m (bcells st)) (hnm : n ≤ m)
    (hx : w.cell? ⟨X, 0, none⟩ = some (.slice A n c)) (_hX : X < w.heap.size) (hy : w.cell? ⟨Y, 0, none⟩ = some (.slice B m cb)) (hY : Y < w.heap.size) :
    Calls Try.prog 48 #[.string t, ptr X, ptr Y] w fun e w' => e = .returned (.bool (nd1 gs st t)) ∧ Below w.heap.size w w' := by
  have HC := Lib.hid (maker_any A n c gs R t w h hn ht)
  have HS := Lib.hid hs
  have HY := Lib.hid hy
  have HGL := Lib.hid h.len
  obtain ⟨b, hb⟩ : ∃ b, b = nd1 gs st t := ⟨_, rfl⟩
  rw [← hb]
  unfold nd1 at hb
  have HV := Lib.hid hb
  clear h hs hy hb
  go_enter Try.func48, Try.ntmps48
  go_wp2_with fail
  refine HC.out.mono ?_
  rintro e w1 ⟨rfl, hb1⟩
  have HB1 := Lib.hid hb1
  cases hmo : makerO gs t with
  | none =>
    have hv := HV.out
    rw [hmo] at hv
    dsimp only at hv
    subst hv
    rw [show idxV none = -1 from rfl]
    clear hb1 hmo HV HC
    go_wp2
    go_ret
    exact ⟨rfl, HB1.out⟩
  | some a =>
    have hv := HV.out
    rw [hmo] at hv
    dsimp only at hv
    have ha := makerO_lt hmo
    rw [HGL.out] at ha
    obtain ⟨bs, off, rfl, hbl, cst⟩ := bools_at HS.out hb1 (k := a) (by omega)
    rw [← hv] at cst
    have cy : w1.cell? ⟨Y, 0, none⟩ = some (.slice (some ⟨bs, off, none⟩) m cb) := (hb1.cell (p := ⟨Y, 0, none⟩) hY).trans HY.out
    rw [show idxV (some a) = (a : Int) from rfl]
    have a0 : decide ((0 : Int) ≤ (a : Int)) = true := decide_eq_true (by omega)
    have a1 : (a : Int) < (m : Int) := by omega
    clear hb1 hmo HV hv HC
    go_wp2
    go_ret
    exact ⟨rfl, HB1.out⟩
set_option maxRecDepth 100000 in
set_option maxHeartbeats 2000000 in
theorem indexN_any (X Y : Nat) (A B An : Option Addr) (n c m cb nn cn : Nat) (gs : List Gp) (R : List Row4) (st : List Bool) (nd : List ByteArray) (w : World) (h : GpRd w A n c gs R) (hn : n ≤ 1000000) (ht : ∀ g ∈ gs, g.tg.length ≤ 1000) (hs : RdX w 1 B m (bcells st)) (hnm : n ≤ m)
    (hx : w.cell? ⟨X, 0, none⟩ = some (.slice A n c)) (hX : X < w.heap.size) (hy : w.cell? ⟨Y, 0, none⟩ = some (.slice B m cb)) (hY : Y < w.heap.size) (hd : RdS w w.heap.size An nn cn nd) (hnn : nn ≤ 1000000) :
    Calls Try.prog 66 #[.slice An nn cn, nsF X Y] w fun e w' => e = .returned (.int .i64 (idxV (nd.findIdx? (nd1 gs st)))) ∧ Below w.heap.size w w' := by
  obtain ⟨r, hr⟩ : ∃ r, r = idxV (nd.findIdx? (nd1 gs st)) := ⟨_, rfl⟩
  rw [← hr]
  have HNS := Lib.hid (fun (t : ByteArray) (W : World) (hb : Below w.heap.size w W) => ns1_any X Y A B n c m cb gs R st t W (h.belowS hb) hn ht ⟨hs.1, hs.2.1, fun h0 => by
    obtain ⟨b, off, e, hc⟩ := hs.2.2 h0
    exact ⟨b, off, e, fun j v hv => (hb.cell (p := ⟨b, off + j, none⟩) (cell_block_lt (hc j v hv))).trans (hc j v hv)⟩⟩ hnm ((hb.cell (p := ⟨X, 0, none⟩) hX).trans hx) (Nat.lt_of_lt_of_le hX hb.size) ((hb.cell (p := ⟨Y, 0, none⟩) hY).trans hy) (Nat.lt_of_lt_of_le hY hb.size))
  have HV := Lib.hid hr
  have HD := Lib.hid hd
  have HL := Lib.hid hd.1
  clear h hs hx hy hr hd
  go_enter Try.func66, Try.ntmps66
  go_wp2
  go_loopw [8] (fun i wr => IxRel w nd (nd1 gs st) nn i wr) (fun i _ => nn - (intOf i).toNat)
  case atStart => exact ⟨0, Nat.zero_le _, rfl, by simp, Below.refl _ _⟩
  case round =>
    obtain ⟨k, hk, rfl, hno, hb⟩ := hrel
    have HN := Lib.hid hno
    have HB := Lib.hid hb
    have hsz := hb.size
    clear hno hb
    by_cases hlt : k < nn
    · obtain ⟨t, ht2⟩ : ∃ t, nd[k]? = some t := ⟨_, List.getElem?_eq_getElem (by rw [HL.out]; exact hlt)⟩
      obtain ⟨b2, o2, rfl, _, ci⟩ := (HD.out.belowS HB.out).at_ ht2
      have hkz : (k : Int) < (nn : Int) := by omega
      obtain ⟨q1, q2⟩ := findIdx_next HN.out ht2
      have Q1 := Lib.hid q1
      have Q2 := Lib.hid q2
      have hc := HNS.out t wr HB.out
      clear q1 q2 ht2
      cases hb : nd1 gs st t with
      | true =>
        rw [hb] at hc
        have HC := Lib.hid hc
        clear hc
        have hf := Q1.out hb
        have hv := HV.out
        rw [hf] at hv
        have hv' : r = (k : Int) := hv
        subst hv'
        clear hb hf hv HV Q1 Q2 HN
        go_wp2_with (go_at_call 48; refine HC.out.mono ?_; rintro e w2 ⟨rfl, hb2⟩; have HB2 := Lib.hid (HB.out.trans (hb2.mono hsz)); clear hb2)
        go_ret
        exact ⟨rfl, HB2.out⟩
      | false =>
        have HF := Lib.hid (Q2.out hb)
        rw [hb] at hc
        have HC := Lib.hid hc
        clear hb Q1 Q2 hc
        go_wp2_with (go_at_call 48; refine HC.out.mono ?_; rintro e w2 ⟨rfl, hb2⟩; have HB2 := Lib.hid (HB.out.trans (hb2.mono hsz)); clear hb2)
        go_roundw
        case rel => exact ⟨k + 1, by omega, by go_num, HF.out, HB2.out⟩
        case measure => simp [intOf]; omega
    · obtain rfl : k = nn := by omega
      have hf := findIdx_end HN.out (by rw [HL.out]; exact Nat.le_refl _)
      have hv := HV.out
      rw [hf] at hv
      have hv' : r = -1 := hv
      subst hv'
      clear hf hv HV HN
      go_wp2
      go_ret
      exact ⟨rfl, HB.out⟩
theorem any_findIdxG {α : Type} (u : List α) (p : α → Bool) : decide ((0 : Int) ≤ idxV (u.findIdx? p)) = u.any p := by
  cases h : u.findIdx? p with
  | none =>
    have : u.any p = false := by
      rw [List.findIdx?_eq_none_iff] at h
      exact List.any_eq_false.2 fun x hx => by rw [h x hx]; simp
    rw [this]; rfl
  | some k =>
    have : u.any p = true := by
      obtain ⟨hk, hp, _⟩ := List.findIdx?_eq_some_iff_getElem.1 h
      exact List.any_eq_true.2 ⟨_, List.getElem_mem hk, hp⟩
    rw [this]; exact decide_eq_true (by show (0 : Int) ≤ (k : Int); omega)
set_option maxRecDepth 100000 in
set_option maxHeartbeats 2000000 in
theorem containsN_any (X Y : Nat) (A B An : Option Addr) (n c m cb nn cn : Nat) (gs : List Gp) (R : List Row4) (st : List Bool) (nd : List ByteArray) (w : World) (h : GpRd w A n c gs R) (hn : n ≤ 1000000) (ht : ∀ g ∈ gs, g.tg.length ≤ 1000) (hs : RdX w 1 B m (bcells st)) (hnm : n ≤ m)
    (hx : w.cell? ⟨X, 0, none⟩ = some (.slice A n c)) (hX : X < w.heap.size) (hy : w.cell? ⟨Y, 0, none⟩ = some (.slice B m cb)) (hY : Y < w.heap.size) (hd : RdS w w.heap.size An nn cn nd) (hnn : nn ≤ 1000000) :
    Calls Try.prog 47 #[.slice An nn cn, nsF X Y] w fun e w' => e = .returned (.bool (ndStale gs st nd)) ∧ Below w.heap.size w w' := by
  have HC := Lib.hid (indexN_any X Y A B An n c m cb nn cn gs R st nd w h hn ht hs hnm hx hX hy hY hd hnn)
  have hq : ndStale gs st nd = decide ((0 : Int) ≤ idxV (nd.findIdx? (nd1 gs st))) := (any_findIdxG _ _).symm
  rw [hq]
  generalize idxV (nd.findIdx? (nd1 gs st)) = r at HC
  clear h hs hx hy hd hq
  go_enter Try.func47, Try.ntmps47
  go_wp2_with fail
  refine HC.out.mono ?_
  rintro e w1 ⟨rfl, hb1⟩
  have HB1 := Lib.hid hb1
  clear hb1
  go_wp2
  go_ret
  exact ⟨rfl, HB1.out⟩
set_option maxRecDepth 100000 in
set_option maxHeartbeats 2000000 in
theorem needsStale_any (A B At An Ac : Option Addr) (n c m cb nt ct nn cn nc cc : Nat) (ph : Bool) (gs : List Gp) (R : List Row4) (st : List Bool) (nd : List ByteArray) (w : World) (h : GpRd w A n c gs R) (hn : n ≤ 1000000) (ht : ∀ g ∈ gs, g.tg.length ≤ 1000) (hs : RdX w 1 B m (bcells st)) (hnm : n ≤ m)
    (hd : RdS w w.heap.size An nn cn nd) (hnn : nn ≤ 1000000) :
    Calls Try.prog 24 #[.agg #[.slice At nt ct, .slice An nn cn, .slice Ac nc cc, .bool ph], .slice A n c, .slice B m cb] w fun e w' => e = .returned (.bool (ndStale gs st nd)) ∧ Below w.heap.size w w' := by
  have hb1 : Below w.heap.size w (w.alloc (.cells #[.slice At nt ct, .slice An nn cn, .slice Ac nc cc, .bool ph] tGr)) := (Below.refl _ _).alloc (Nat.le_refl _) _
  have hb2 : Below w.heap.size w ((w.alloc (.cells #[.slice At nt ct, .slice An nn cn, .slice Ac nc cc, .bool ph] tGr)).alloc (.cells #[.slice A n c] 39)) := hb1.alloc hb1.size _
  have hb3 : Below w.heap.size w (((w.alloc (.cells #[.slice At nt ct, .slice An nn cn, .slice Ac nc cc, .bool ph] tGr)).alloc (.cells #[.slice A n c] 39)).alloc (.cells #[.slice B m cb] 24)) := hb2.alloc hb2.size _
  have s1 : (w.alloc (.cells #[.slice At nt ct, .slice An nn cn, .slice Ac nc cc, .bool ph] tGr)).heap.size = w.heap.size + 1 := by simp
  have s2 : ((w.alloc (.cells #[.slice At nt ct, .slice An nn cn, .slice Ac nc cc, .bool ph] tGr)).alloc (.cells #[.slice A n c] 39)).heap.size = w.heap.size + 2 := by simp
  have s3 : (((w.alloc (.cells #[.slice At nt ct, .slice An nn cn, .slice Ac nc cc, .bool ph] tGr)).alloc (.cells #[.slice A n c] 39)).alloc (.cells #[.slice B m cb] 24)).heap.size = w.heap.size + 3 := by simp
  have p0 := ((Blk.new w tGr #[.slice At nt ct, .slice An nn cn, .slice Ac nc cc, .bool ph]).alloc (.cells #[.slice A n c] 39)).alloc (.cells #[.slice B m cb] 24)
  have p1 := (Blk.new (w.alloc (.cells #[.slice At nt ct, .slice An nn cn, .slice Ac nc cc, .bool ph] tGr)) 39 #[.slice A n c]).alloc (.cells #[.slice B m cb] 24)
  have p2 := Blk.new ((w.alloc (.cells #[.slice At nt ct, .slice An nn cn, .slice Ac nc cc, .bool ph] tGr)).alloc (.cells #[.slice A n c] 39)) 24 #[.slice B m cb]
  rw [s1] at p1
  rw [s2] at p2
  have g1 := p0.cell 1
  have HC := Lib.hid (containsN_any (w.heap.size + 1) (w.heap.size + 2) A B An n c m cb nn cn gs R st nd _ (h.belowS hb3) hn ht ⟨hs.1, hs.2.1, fun h0 => by
    obtain ⟨b, off, e, hc⟩ := hs.2.2 h0
    exact ⟨b, off, e, fun j v hv => (hb3.cell (p := ⟨b, off + j, none⟩) (cell_block_lt (hc j v hv))).trans (hc j v hv)⟩⟩ hnm (p1.cell 0) (by rw [s3]; omega) (p2.cell 0) (by rw [s3]; omega) (RdS.belowS hd hb3) hnn)
  have HB := Lib.hid hb3
  generalize ndStale gs st nd = r at *
  clear h hs hd hb1 hb2 hb3 s1 s2 s3 p0 p1 p2
  go_enter Try.func24, Try.ntmps24
  go_wp2_with fail
  refine HC.out.mono ?_
  rintro e w1 ⟨rfl, hb1⟩
  have HB1 := Lib.hid (HB.out.trans (hb1.mono HB.out.size))
  clear hb1
  go_wp2
  go_ret
  exact ⟨rfl, HB1.out⟩
end Go.Proofs.Ytlkpbpecgdphaaa
