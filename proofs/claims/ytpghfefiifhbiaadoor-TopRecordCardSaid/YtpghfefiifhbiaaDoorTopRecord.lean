/-
  WALK: hammerpondtop.TopRecord returns true, whatever the record.
-/
import Derived.Test.YtpghfefiifhbiaaDoorRcX
import Derived.Test.YtpghfefiifhbiaaDoorRcS
import Derived.Test.YtpghfefiifhbiaaDoorRcL
namespace Go.Proofs.YtpghfefiifhbiaaDoor
open Go.RowKit Go.Sort

theorem recL_fail : ba (recL ([⟨#[102, 97, 105, 108]⟩], [], [])) = ⟨#[49, 32, 48, 32, 48, 32, 52, 58, 102, 97, 105, 108]⟩ := by
  have e1 : numL 1 = [49] := numL_small (by omega)
  have e0 : numL 0 = [48] := numL_small (by omega)
  have e4 : numL 4 = [52] := numL_small (by omega)
  have e : recL ([⟨#[102, 97, 105, 108]⟩], [], []) = [49, 32, 48, 32, 48, 32, 52, 58, 102, 97, 105, 108] := by
    unfold recL hdL
    simp only [List.length_cons, List.length_nil, List.flatMap_cons, List.flatMap_nil, txL]
    rw [show (0 + 1) = 1 from rfl, show (⟨#[102, 97, 105, 108]⟩ : ByteArray).size = 4 from rfl, e0, e1, e4]
    rfl
  rw [e]; rfl
theorem nameB_32 {s : ByteArray} (h : nameB s = true) : (32 : UInt8) ∉ s.data.toList := by
  intro hm
  obtain ⟨k, hk, e⟩ := List.mem_iff_getElem.1 hm
  have hk' : k < s.size := by simpa using hk
  have e' : s[k] = 32 := by
    have : s[k] = s.data.toList[k] := rfl
    rw [this, e]
  have hb : chB k (s[k].toNat : Int) = false := by
    rw [e']
    unfold chB letB digB
    have : ((32 : UInt8).toNat : Int) = 32 := rfl
    rw [this]
    simp
  rw [nameB_bad hk' hb] at h
  cases h
theorem fault0 {f : F} (h : faultN f.1 f.2 = 0) : f.2.size ≤ 20 ∧ nameB f.1 = true ∧ (32 : UInt8) ∉ f.1.data.toList := by
  unfold faultN at h
  split at h
  · rename_i hn
    split at h
    · cases h
    · exact ⟨by omega, hn, nameB_32 hn⟩
  · cases h
def TrRel (l : List F) (W : World) (i : Value) (wr : World) : Prop := ∃ k : Nat, k ≤ l.length ∧ i = .int .i64 k ∧ (∀ j f, j < k → l[j]? = some f → faultN f.1 f.2 = 0) ∧ Below W.heap.size W wr
def TcRel (l : List ByteArray) (i : Value) : Prop := ∃ k : Nat, k ≤ l.length ∧ i = .int .i64 k ∧ ∀ j s, j < k → l[j]? = some s → s.size ≤ 300
theorem at_all {α : Type} {l : List α} {p : α → Prop} (h : ∀ j f, j < l.length → l[j]? = some f → p f) : ∀ f ∈ l, p f := fun f hf => by
  obtain ⟨j, hj, e⟩ := List.mem_iff_getElem.1 hf
  exact h j f hj (by rw [List.getElem?_eq_getElem hj, e])
theorem at_next {α : Type} {l : List α} {p : α → Prop} {k : Nat} {f : α} (h : ∀ j f, j < k → l[j]? = some f → p f) (hf : l[k]? = some f) (hp : p f) : ∀ j f, j < k + 1 → l[j]? = some f → p f := fun j g hj hg => by
  rcases Nat.lt_or_ge j k with h3 | h3
  · exact h j g h3 hg
  · obtain rfl : j = k := by omega
    rw [hf] at hg
    injection hg with hg
    subst hg
    exact hp
def TtP (w : World) (e : Ending) (w' : World) : Prop := e = .returned (.bool true) ∧ Below w.heap.size w w'

set_option maxRecDepth 100000 in
set_option maxHeartbeats 16000000 in
theorem topRecord_any (A0 A1 A2 : Option Addr) (n0 n1 n2 c0 c1 c2 : Nat) (l0 : List ByteArray) (l1 l2 : List F) (w : World) (hE : Env w)
    (h0 : RdS w w.heap.size A0 n0 c0 l0) (h1 : RdF w w.heap.size A1 n1 c1 l1) (h2 : RdF w w.heap.size A2 n2 c2 l2) :
    Calls Tryd.prog 3 #[.agg #[.slice A0 n0 c0, .slice A1 n1 c1, .slice A2 n2 c2]] w (TtP w) := by
  have hbx : Below w.heap.size w ((w.alloc (.cells #[.slice A0 n0 c0, .slice A1 n1 c1, .slice A2 n2 c2] tRec)).alloc (.cells #[.string ⟨#[102, 97, 105, 108]⟩] tStr)) := ((Below.refl _ w).alloc (Nat.le_refl _) _).alloc (by simp) _
  have p0 := (Blk.new w tRec #[.slice A0 n0 c0, .slice A1 n1 c1, .slice A2 n2 c2]).alloc (.cells #[.string ⟨#[102, 97, 105, 108]⟩] tStr)
  have p1 := Blk.new (w.alloc (.cells #[.slice A0 n0 c0, .slice A1 n1 c1, .slice A2 n2 c2] tRec)) tStr #[.string ⟨#[102, 97, 105, 108]⟩]
  have hs1 : (w.alloc (.cells #[.slice A0 n0 c0, .slice A1 n1 c1, .slice A2 n2 c2] tRec)).heap.size = w.heap.size + 1 := by simp
  rw [hs1] at p1
  have HBX := Lib.hid hbx
  have P0 := Lib.hid p0
  have P1 := Lib.hid p1
  have HE := Lib.hid (hE.below hbx)
  have H0 := Lib.hid (RdS.belowS h0 hbx)
  have H1 := Lib.hid (RdF.belowS h1 hbx)
  have H2 := Lib.hid (RdF.belowS h2 hbx)
  have L0 := Lib.hid h0.1
  have L1 := Lib.hid h1.1
  have L2 := Lib.hid h2.1
  have hm0 := h0.2.2.1
  have hnc0 := h0.2.1
  have hm1 := h1.2.2.1
  have hnc1 := h1.2.1
  have hm2 := h2.2.2.1
  have hnc2 := h2.2.1
  unfold maxLen at hm0 hm1 hm2
  have a0 := p0.cell 0
  clear hbx p0 p1 hE h0 h1 h2 hs1
  go_enter Tryd.func3, Tryd.ntmps3
  go_wp2_with fail
  generalize (w.alloc (.cells #[.slice A0 n0 c0, .slice A1 n1 c1, .slice A2 n2 c2] tRec)).alloc (.cells #[.string ⟨#[102, 97, 105, 108]⟩] tStr) = W at *
  have hfs : RdS W W.heap.size (some ⟨w.heap.size + 1, 0, none⟩) 1 1 [⟨#[102, 97, 105, 108]⟩] := ⟨rfl, Nat.le_refl _, by unfold maxLen; omega, fun _ => ⟨w.heap.size + 1, 0, rfl, P1.out.lt, fun j u hu => by
    match j with
    | 0 => simp at hu; subst hu; exact P1.out.cell 0
    | j + 1 => simp at hu⟩⟩
  have HT := Lib.hid (text_any (some ⟨w.heap.size + 1, 0, none⟩) none none 1 1 0 0 0 0 [⟨#[102, 97, 105, 108]⟩] [] [] W HE.out hfs (RdF.nil _ _) (RdF.nil _ _) ⟨by simp, fun s hs => by simp at hs; subst hs; decide⟩ ⟨by simp, by simp⟩ ⟨by simp, by simp⟩)
  rw [recL_fail] at HT
  clear hfs a0 P1
  refine HT.out.mono ?_
  rintro e w1 ⟨rfl, hb1⟩
  have hbw := HBX.out.trans (hb1.mono HBX.out.size)
  have HB1 := Lib.hid hbw
  have p1 : Blk w1 w.heap.size tRec #[.slice A0 n0 c0, .slice A1 n1 c1, .slice A2 n2 c2] := (hb1.block _ P0.out.lt).trans P0.out
  have P1 := Lib.hid p1
  have HE1 := Lib.hid (HE.out.below hb1)
  have H01 := Lib.hid (RdS.belowS H0.out hb1)
  have H11 := Lib.hid (RdF.belowS H1.out hb1)
  have H21 := Lib.hid (RdF.belowS H2.out hb1)
  have a0 : w1.cell? ⟨w.heap.size, 0, none⟩ = some (.slice A0 n0 c0) := p1.cell 0
  have a1 : w1.cell? ⟨w.heap.size, 1, none⟩ = some (.slice A1 n1 c1) := p1.cell 1
  have a2 : w1.cell? ⟨w.heap.size, 2, none⟩ = some (.slice A2 n2 c2) := p1.cell 2
  clear HT hb1 hbw p1 P0 HE H0 H1 H2 HBX
  go_wp2_with fail
  refine (lightR_any A0 A1 A2 n0 n1 n2 c0 c1 c2 l0 l1 l2 w1 H01.out H11.out H21.out).mono ?_
  rintro e w2 ⟨b, rfl, hb, hb2⟩
  have HLI := Lib.hid hb
  have p2 : Blk w2 w.heap.size tRec #[.slice A0 n0 c0, .slice A1 n1 c1, .slice A2 n2 c2] := (hb2.block _ P1.out.lt).trans P1.out
  have P2 := Lib.hid p2
  have HB2 := Lib.hid (HB1.out.trans (hb2.mono HB1.out.size))
  have HE2 := Lib.hid (HE1.out.below hb2)
  have H02 := Lib.hid (RdS.belowS H01.out hb2)
  have H12 := Lib.hid (RdF.belowS H11.out hb2)
  have H22 := Lib.hid (RdF.belowS H21.out hb2)
  clear a0 a1 a2 hb hb2 P1 HB1 HE1 H01 H11 H21
  have a0 : w2.cell? ⟨w.heap.size, 0, none⟩ = some (.slice A0 n0 c0) := p2.cell 0
  have a1 : w2.cell? ⟨w.heap.size, 1, none⟩ = some (.slice A1 n1 c1) := p2.cell 1
  have a2 : w2.cell? ⟨w.heap.size, 2, none⟩ = some (.slice A2 n2 c2) := p2.cell 2
  clear p2
  cases b with
  | false =>
    go_wp2
    go_ret
    exact ⟨rfl, HB2.out⟩
  | true =>
    by_cases q0 : 3 < n0
    · have d0 : (3 : Int) < (n0 : Int) := by omega
      go_wp2
      go_ret
      exact ⟨rfl, HB2.out⟩
    have d0 : decide ((3 : Int) < (n0 : Int)) = false := decide_eq_false (by omega)
    by_cases q1 : 3 < n1
    · have d1 : (3 : Int) < (n1 : Int) := by omega
      go_wp2
      go_ret
      exact ⟨rfl, HB2.out⟩
    have d1 : decide ((3 : Int) < (n1 : Int)) = false := decide_eq_false (by omega)
    by_cases q2 : 2 < n2
    · have d2 : (2 : Int) < (n2 : Int) := by omega
      go_wp2
      go_ret
      exact ⟨rfl, HB2.out⟩
    have d2 : decide ((2 : Int) < (n2 : Int)) = false := decide_eq_false (by omega)
    have hlit := HLI.out (by trivial)
    have LIT := Lib.hid hlit
    clear hlit HLI
    go_wp2
    clear a0 a1 a2
    go_loopw [3] (fun i wr => TrRel l1 w2 i wr) (fun i _ => n1 - (intOf i).toNat)
    case atStart => exact ⟨0, Nat.zero_le _, rfl, fun j g h => by omega, Below.refl _ _⟩
    case round =>
      obtain ⟨k, hk, rfl, hno, hbl⟩ := hrel
      have hkn : k ≤ n1 := by rw [← L1.out]; exact hk
      clear hk
      have HN := Lib.hid hno
      have HBL := Lib.hid hbl
      have pr : Blk wr w.heap.size tRec #[.slice A0 n0 c0, .slice A1 n1 c1, .slice A2 n2 c2] := (hbl.block _ P2.out.lt).trans P2.out
      have a1 : wr.cell? ⟨w.heap.size, 1, none⟩ = some (.slice A1 n1 c1) := pr.cell 1
      have a2 : wr.cell? ⟨w.heap.size, 2, none⟩ = some (.slice A2 n2 c2) := pr.cell 2
      clear hno hbl pr
      by_cases hlt : k < n1
      · obtain ⟨f, hf⟩ : ∃ f, l1[k]? = some f := ⟨_, List.getElem?_eq_getElem (by rw [L1.out]; exact hlt)⟩
        obtain ⟨b', off, rfl, _, hc1, hc2⟩ := (H12.out.below HBL.out).at_ hf
        have hkz : (k : Int) < (n1 : Int) := by omega
        have HF := Lib.hid hf
        have hsz := (LIT.out.2.2.2.1 f (List.mem_of_getElem? hf)).1
        clear hf
        obtain ⟨fx, ft⟩ := f
        dsimp only at hc1 hc2 hsz
        have HC := Lib.hid (check_any fx ft wr (by omega))
        go_wp2_with fail
        refine HC.out.mono ?_
        rintro e w3 ⟨rfl, hb3⟩
        have HB3 := Lib.hid (HBL.out.trans (hb3.mono HBL.out.size))
        clear hb3 HC hc1 hc2 a1 a2
        by_cases hz : faultN fx ft = 0
        · rw [hz, show errV 0 = .nilIface from if_pos rfl]
          have HZ := Lib.hid hz
          clear hz
          go_wp2
          go_roundw
          case rel => exact ⟨k + 1, by rw [L1.out]; omega, by go_num, at_next HN.out HF.out HZ.out, HB3.out⟩
          case measure => simp [intOf]; omega
        · rw [show errV (faultN fx ft) = .iface 47 (.int .i64 (faultN fx ft)) from if_neg hz]
          clear hz
          go_wp2
          go_ret
          exact ⟨rfl, HB2.out.trans (HB3.out.mono HB2.out.size)⟩
      · obtain rfl : k = n1 := by omega
        have hall := at_all (l := l1) (p := fun f => faultN f.1 f.2 = 0) (by rw [L1.out]; exact HN.out)
        have HA := Lib.hid hall
        clear hall HN
        go_wp2
        clear a1 a2
        go_loopw [4] (fun i wr => TrRel l2 w2 i wr) (fun i _ => n2 - (intOf i).toNat)
        case atStart => exact ⟨0, Nat.zero_le _, rfl, fun j g h => by omega, HBL.out⟩
        case round =>
          clear HBL
          obtain ⟨k2, hk2, rfl, hno, hbl⟩ := hrel
          have hkn2 : k2 ≤ n2 := by rw [← L2.out]; exact hk2
          clear hk2
          have HN := Lib.hid hno
          have HBL := Lib.hid hbl
          have pr : Blk wr w.heap.size tRec #[.slice A0 n0 c0, .slice A1 k c1, .slice A2 n2 c2] := (hbl.block _ P2.out.lt).trans P2.out
          have PR := Lib.hid pr
          have a0 : wr.cell? ⟨w.heap.size, 0, none⟩ = some (.slice A0 n0 c0) := pr.cell 0
          have a1 : wr.cell? ⟨w.heap.size, 1, none⟩ = some (.slice A1 k c1) := pr.cell 1
          have a2 : wr.cell? ⟨w.heap.size, 2, none⟩ = some (.slice A2 n2 c2) := pr.cell 2
          clear hno hbl pr
          by_cases hlt2 : k2 < n2
          · obtain ⟨f, hf⟩ : ∃ f, l2[k2]? = some f := ⟨_, List.getElem?_eq_getElem (by rw [L2.out]; exact hlt2)⟩
            obtain ⟨b', off, rfl, _, hc1, hc2⟩ := (H22.out.below HBL.out).at_ hf
            have hkz : (k2 : Int) < (n2 : Int) := by omega
            have HF := Lib.hid hf
            have hsz := (LIT.out.2.2.2.2 f (List.mem_of_getElem? hf)).1
            clear hf
            obtain ⟨fx, ft⟩ := f
            dsimp only at hc1 hc2 hsz
            have HC := Lib.hid (check_any fx ft wr (by omega))
            go_wp2_with fail
            refine HC.out.mono ?_
            rintro e w3 ⟨rfl, hb3⟩
            have HB3 := Lib.hid (HBL.out.trans (hb3.mono HBL.out.size))
            clear hb3 HC hc1 hc2 a0 a1 a2
            by_cases hz : faultN fx ft = 0
            · rw [hz, show errV 0 = .nilIface from if_pos rfl]
              have HZ := Lib.hid hz
              clear hz
              go_wp2
              go_roundw
              case rel => exact ⟨k2 + 1, by rw [L2.out]; omega, by go_num, at_next HN.out HF.out HZ.out, HB3.out⟩
              case measure => simp [intOf]; omega
            · rw [show errV (faultN fx ft) = .iface 47 (.int .i64 (faultN fx ft)) from if_neg hz]
              clear hz
              go_wp2
              go_ret
              exact ⟨rfl, HB2.out.trans (HB3.out.mono HB2.out.size)⟩
          · obtain rfl : k2 = n2 := by omega
            have hall2 := at_all (l := l2) (p := fun f => faultN f.1 f.2 = 0) (by rw [L2.out]; exact HN.out)
            have HA2 := Lib.hid hall2
            clear hall2 HN
            go_wp2
            go_loop [5] (fun i => TcRel l0 i) (fun i => n0 - (intOf i).toNat)
            case atStart => exact ⟨0, Nat.zero_le _, rfl, fun j g h => by omega⟩
            case round =>
              obtain ⟨k3, hk3, rfl, hno⟩ := hrel
              have hkn3 : k3 ≤ n0 := by rw [← L0.out]; exact hk3
              clear hk3
              have HN := Lib.hid hno
              clear hno
              by_cases hlt3 : k3 < n0
              · obtain ⟨f, hf⟩ : ∃ f, l0[k3]? = some f := ⟨_, List.getElem?_eq_getElem (by rw [L0.out]; exact hlt3)⟩
                obtain ⟨b', off, rfl, _, hc1⟩ := (H02.out.below HBL.out).at_ hf
                have hkz : (k3 : Int) < (n0 : Int) := by omega
                have HF := Lib.hid hf
                clear hf
                by_cases hs : 300 < f.size
                · have t1 : (300 : Int) < (f.size : Int) := by omega
                  go_wp2
                  go_ret
                  exact ⟨rfl, HB2.out.trans (HBL.out.mono HB2.out.size)⟩
                · have t1 : decide ((300 : Int) < (f.size : Int)) = false := decide_eq_false (by omega)
                  go_wp2
                  go_round
                  case rel => exact ⟨k3 + 1, by rw [L0.out]; omega, by go_num, at_next HN.out HF.out (by omega)⟩
                  case measure => simp [intOf]; omega
              · obtain rfl : k3 = n0 := by omega
                have hall3 := at_all (l := l0) (p := fun s => s.size ≤ 300) (by rw [L0.out]; exact HN.out)
                have hrok : RecOk nameB (l0, l1, l2) := ⟨by show l0.length ≤ 3; rw [L0.out]; omega, by show l1.length ≤ 3; rw [L1.out]; omega, by show l2.length ≤ 2; rw [L2.out]; omega, hall3, fun f hf => by
                  rcases List.mem_append.1 hf with h | h
                  · exact fault0 (HA.out f h)
                  · exact fault0 (HA2.out f h)⟩
                have HRO := Lib.hid (rec_read nameB (l0, l1, l2) hrok)
                have hst0 : ShrtT l0 := ⟨by rw [L0.out]; omega, fun s hs => by have := hall3 s hs; omega⟩
                have hst1 : Shrt l1 := ⟨by rw [L1.out]; omega, fun f hf => by have := LIT.out.2.2.2.1 f hf; omega⟩
                have hst2 : Shrt l2 := ⟨by rw [L2.out]; omega, fun f hf => by have := LIT.out.2.2.2.2 f hf; omega⟩
                have HTX := Lib.hid (text_any A0 A1 A2 k3 c0 k c1 k2 c2 l0 l1 l2 wr (HE2.out.below HBL.out) (RdS.belowS H02.out HBL.out) (RdF.belowS H12.out HBL.out) (RdF.belowS H22.out HBL.out) hst0 hst1 hst2)
                have hlen : (recL (l0, l1, l2)).length ≤ 1000000 := by
                  have q1 : (l0.flatMap txL).length ≤ l0.length * 311 := flat_len (fun s hs => by have := hall3 s hs; have := txL_len (s := s) (by omega); omega)
                  have q2 : (l1.flatMap flL).length ≤ l1.length * 2100 := flat_len (fun f hf => flL_len (hst1.2 f hf).1 (hst1.2 f hf).2)
                  have q3 : (l2.flatMap flL).length ≤ l2.length * 2100 := flat_len (fun f hf => flL_len (hst2.2 f hf).1 (hst2.2 f hf).2)
                  have q4 := numL_short (n := l0.length) (by rw [L0.out]; omega)
                  have q5 := numL_short (n := l1.length) (by rw [L1.out]; omega)
                  have q6 := numL_short (n := l2.length) (by rw [L2.out]; omega)
                  have z0 : l0.length ≤ 3 := by rw [L0.out]; omega
                  have z1 : l1.length ≤ 3 := by rw [L1.out]; omega
                  have z2 : l2.length ≤ 2 := by rw [L2.out]; omega
                  simp only [recL, hdL, List.length_append, List.length_cons]
                  omega
                clear hall3 hrok hst0 hst1 hst2 HN
                go_wp2_with fail
                refine HTX.out.mono ?_
                rintro e w5 ⟨rfl, hb5⟩
                have HB5 := Lib.hid (HBL.out.trans (hb5.mono HBL.out.size))
                clear HTX hb5 a0 a1 a2
                have HPA := Lib.hid (parse_any (ba (recL (l0, l1, l2))) w5 (HE2.out.below HB5.out) (by rw [ba_size]; exact hlen))
                rw [ba_data] at HPA
                go_wp2_with fail
                refine HPA.out.mono ?_
                rintro e w6 ⟨hb6, B0, m0, e0, B1, m1, e1, B2, m2, e2, rfl, r0, r1, r2⟩
                rw [HRO.out] at r0 r1 r2
                have herr : errV (recN (recO nameB (recL (l0, l1, l2)))) = .nilIface := by rw [HRO.out]; rfl
                rw [herr]
                have HB6 := Lib.hid (HB5.out.trans (hb6.mono HB5.out.size))
                have R0 := Lib.hid (show RdS w6 w6.heap.size B0 m0 e0 l0 from r0)
                have R1 := Lib.hid (show RdF w6 w6.heap.size B1 m1 e1 l1 from r1)
                have R2 := Lib.hid (show RdF w6 w6.heap.size B2 m2 e2 l2 from r2)
                clear hb6 r0 r1 r2 herr HPA hlen HRO
                have hbz : Below w6.heap.size w6 (w6.alloc (.cells #[.slice B0 m0 e0, .slice B1 m1 e1, .slice B2 m2 e2] tRec)) := (Below.refl _ _).alloc (Nat.le_refl _) _
                have pz := Blk.new w6 tRec #[.slice B0 m0 e0, .slice B1 m1 e1, .slice B2 m2 e2]
                have HB7 := Lib.hid (HB6.out.trans (hbz.mono HB6.out.size))
                have pr7 : Blk (w6.alloc (.cells #[.slice B0 m0 e0, .slice B1 m1 e1, .slice B2 m2 e2] tRec)) w.heap.size tRec #[.slice A0 k3 c0, .slice A1 k c1, .slice A2 k2 c2] := (HB7.out.block _ P2.out.lt).trans P2.out
                have HS := Lib.hid (sameR_gen B0 B1 B2 A0 A1 A2 m0 m1 m2 e0 e1 e2 k3 k k2 c0 c1 c2 l0 l0 l1 l2 l1 l2 _ (R0.out.belowS hbz) (R1.out.belowS hbz) (R2.out.belowS hbz) (RdS.belowS H02.out HB7.out) (RdF.belowS H12.out HB7.out) (RdF.belowS H22.out HB7.out))
                have y0 : (w6.alloc (.cells #[.slice B0 m0 e0, .slice B1 m1 e1, .slice B2 m2 e2] tRec)).cell? ⟨w.heap.size, 0, none⟩ = some (.slice A0 k3 c0) := pr7.cell 0
                have y1 : (w6.alloc (.cells #[.slice B0 m0 e0, .slice B1 m1 e1, .slice B2 m2 e2] tRec)).cell? ⟨w.heap.size, 1, none⟩ = some (.slice A1 k c1) := pr7.cell 1
                have y2 : (w6.alloc (.cells #[.slice B0 m0 e0, .slice B1 m1 e1, .slice B2 m2 e2] tRec)).cell? ⟨w.heap.size, 2, none⟩ = some (.slice A2 k2 c2) := pr7.cell 2
                clear hbz pz pr7
                go_wp2_with fail
                refine HS.out.mono ?_
                rintro e w8 ⟨rfl, hb8⟩
                have HB8 := Lib.hid (HB7.out.trans (hb8.mono HB7.out.size))
                clear hb8 HS y0 y1 y2
                go_wp2
                go_ret
                exact ⟨rfl, HB2.out.trans (HB8.out.mono HB2.out.size)⟩
end Go.Proofs.YtpghfefiifhbiaaDoor
