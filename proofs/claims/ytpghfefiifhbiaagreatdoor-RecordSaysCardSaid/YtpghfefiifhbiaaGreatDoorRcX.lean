/-
  WALKS: record.write, record.Text: the text of a record.
-/
import Derived.Test.YtpghfefiifhbiaaGreatDoorRcW
namespace Go.Proofs.YtpghfefiifhbiaaGreatDoor
open Go.RowKit Go.Sort

def WcRel (B b : Nat) (t : Bs) (w : World) (g : Nat) (cs : Array Value) (l : List ByteArray) (n : Nat) (i : Value) (wr : World) : Prop := ∃ k : Nat, k ≤ n ∧ i = .int .i64 k ∧ Wrt B b (t ++ (l.take k).flatMap txL) w wr ∧ Blk wr g 27 cs
def ShrtT (l : List ByteArray) : Prop := l.length ≤ 1000 ∧ ∀ s ∈ l, s.size ≤ 1000
theorem ShrtT.take {l : List ByteArray} (h : ShrtT l) (k : Nat) : ((l.take k).flatMap txL).length ≤ 1100000 := by
  have h1 : ((l.take k).flatMap txL).length ≤ (l.take k).length * 1100 := flat_len (fun a ha => by have := h.2 a (List.mem_of_mem_take ha); have := txL_len (s := a) (by omega); omega)
  have h2 : (l.take k).length ≤ l.length := by rw [List.length_take]; omega
  have h3 := h.1
  have h4 : (l.take k).length * 1100 ≤ 1000 * 1100 := Nat.mul_le_mul_right _ (by omega)
  omega
set_option maxRecDepth 100000 in
set_option maxHeartbeats 8000000 in
theorem write_any (B b : Nat) (t : Bs) (A0 A1 A2 : Option Addr) (n0 c0 n1 c1 n2 c2 : Nat) (l0 : List ByteArray) (l1 l2 : List F) (w : World) (h : Bw B b t w) (hE : Env w) (hB : EnvB B)
    (hr0 : RdS w B A0 n0 c0 l0) (hr1 : RdF w B A1 n1 c1 l1) (hr2 : RdF w B A2 n2 c2 l2) (hl0 : ShrtT l0) (hl1 : Shrt l1) (hl2 : Shrt l2) (ht : t.length ≤ 1000) :
    Calls Tryz.prog 26 #[.agg #[.slice A0 n0 c0, .slice A1 n1 c1, .slice A2 n2 c2], putV b] w fun e w' => e = .returned (.tuple #[]) ∧ Wrt B b (t ++ recL (l0, l1, l2)) w w' := by
  have hn0 : n0 ≤ 1000 := by have := hl0.1; rw [hr0.1] at this; exact this
  have hn1 : n1 ≤ 1000 := by have := hl1.1; rw [hr1.1] at this; exact this
  have hn2 : n2 ≤ 1000 := by have := hl2.1; rw [hr2.1] at this; exact this
  have HLN0 := Lib.hid hr0.1
  have HLN1 := Lib.hid hr1.1
  have HLN2 := Lib.hid hr2.1
  have HL0 := Lib.hid (numL_short (n := n0) (by omega))
  have HL1 := Lib.hid (numL_short (n := n1) (by omega))
  have HL2 := Lib.hid (numL_short (n := n2) (by omega))
  have HE := Lib.hid hE
  have HB := Lib.hid hB
  have HR0 := Lib.hid hr0
  have HR1 := Lib.hid hr1
  have HR2 := Lib.hid hr2
  have HS0 := Lib.hid hl0
  have HS1 := Lib.hid hl1
  have HS2 := Lib.hid hl2
  obtain ⟨cs, hcs⟩ : ∃ cs : Array Value, cs = #[.slice A0 n0 c0, .slice A1 n1 c1, .slice A2 n2 c2] := ⟨_, rfl⟩
  have e0 : cs[0]? = some (.slice A0 n0 c0) := by rw [hcs]; rfl
  have e1 : cs[1]? = some (.slice A1 n1 c1) := by rw [hcs]; rfl
  have e2 : cs[2]? = some (.slice A2 n2 c2) := by rw [hcs]; rfl
  have E0 := Lib.hid e0
  have E1 := Lib.hid e1
  have E2 := Lib.hid e2
  have hb0 : Below w.heap.size w (w.alloc (.cells cs 27)) := (Below.refl _ _).alloc (Nat.le_refl _) _
  have H0 := Lib.hid (Wrt.of_below h hb0)
  have HK0 := Lib.hid (Blk.new w 27 cs)
  obtain ⟨g, hg⟩ : ∃ g, g = w.heap.size := ⟨_, rfl⟩
  rw [← hg] at HK0
  have HG := Lib.hid hg
  rw [hcs] at H0 HK0
  have HCS := Lib.hid hcs
  clear hE hB h hr0 hr1 hr2 hl0 hl1 hl2 e0 e1 e2 hb0 hg hcs
  have g0 : (w.alloc (.cells #[.slice A0 n0 c0, .slice A1 n1 c1, .slice A2 n2 c2] 27)).cell? ⟨w.heap.size, 0, none⟩ = some (.slice A0 n0 c0) := by rw [← HG.out]; exact HK0.out.cell 0
  go_enter Tryz.func26, Tryz.ntmps26
  go_wp2_with fail
  generalize hwz : w.alloc (.cells #[.slice A0 n0 c0, .slice A1 n1 c1, .slice A2 n2 c2] 27) = wz at *
  rw [← HCS.out] at HK0
  rw [← HG.out] at g0 ⊢
  clear hwz
  refine (itoa_any n0 (by omega) wz (HE.out.belowB HB.out H0.out.lo)).mono ?_
  rintro e w1 ⟨rfl, hb1⟩
  have HK1 := Lib.hid ((KpT.of_below hb1) _ _ _ HK0.out (by decide) (by decide))
  have H1 := Lib.hid (H0.out.trans (Wrt.of_below H0.out.bw hb1))
  clear hb1 g0
  go_wp2_with fail
  refine (put1_any B b t (ba (numL n0)) w1 H1.out.bw (by rw [ba_size]; have := HL0.out; omega)).mono ?_
  rintro e w2 ⟨rfl, hw2⟩
  rw [ba_data] at hw2
  have HK2 := Lib.hid (hw2.kp _ _ _ HK1.out (by decide) (by decide))
  have H2 := Lib.hid (H1.out.trans hw2)
  clear hw2
  go_wp2_with fail
  refine (put1_any B b (t ++ numL n0) ⟨#[32]⟩ w2 H2.out.bw (by rw [List.length_append]; have := HL0.out; show _ + 1 ≤ _; omega)).mono ?_
  rintro e w3 ⟨rfl, hw3⟩
  rw [ba1] at hw3
  have HK3 := Lib.hid (hw3.kp _ _ _ HK2.out (by decide) (by decide))
  have H3 := Lib.hid (H2.out.trans hw3)
  clear hw3
  have g3 := (HK3.out.cell 1).trans E1.out
  go_wp2_with fail
  refine (itoa_any n1 (by omega) w3 (HE.out.belowB HB.out H3.out.lo)).mono ?_
  rintro e w4 ⟨rfl, hb4⟩
  have HK4 := Lib.hid ((KpT.of_below hb4) _ _ _ HK3.out (by decide) (by decide))
  have H4 := Lib.hid (H3.out.trans (Wrt.of_below H3.out.bw hb4))
  clear hb4 g3
  go_wp2_with fail
  refine (put1_any B b (t ++ numL n0 ++ [32]) (ba (numL n1)) w4 H4.out.bw (by rw [ba_size, List.length_append, List.length_append]; have := HL0.out; have := HL1.out; simp; omega)).mono ?_
  rintro e w5 ⟨rfl, hw5⟩
  rw [ba_data] at hw5
  have HK5 := Lib.hid (hw5.kp _ _ _ HK4.out (by decide) (by decide))
  have H5 := Lib.hid (H4.out.trans hw5)
  clear hw5
  go_wp2_with fail
  refine (put1_any B b (t ++ numL n0 ++ [32] ++ numL n1) ⟨#[32]⟩ w5 H5.out.bw (by rw [List.length_append, List.length_append, List.length_append]; have := HL0.out; have := HL1.out; show _ + 1 ≤ _; simp; omega)).mono ?_
  rintro e w6 ⟨rfl, hw6⟩
  rw [ba1] at hw6
  have HK6 := Lib.hid (hw6.kp _ _ _ HK5.out (by decide) (by decide))
  have H6 := Lib.hid (H5.out.trans hw6)
  clear hw6
  have g6 := (HK6.out.cell 2).trans E2.out
  go_wp2_with fail
  refine (itoa_any n2 (by omega) w6 (HE.out.belowB HB.out H6.out.lo)).mono ?_
  rintro e w7 ⟨rfl, hb7⟩
  have HK7 := Lib.hid ((KpT.of_below hb7) _ _ _ HK6.out (by decide) (by decide))
  have H7 := Lib.hid (H6.out.trans (Wrt.of_below H6.out.bw hb7))
  clear hb7 g6
  go_wp2_with fail
  refine (put1_any B b (t ++ numL n0 ++ [32] ++ numL n1 ++ [32]) (ba (numL n2)) w7 H7.out.bw (by rw [ba_size, List.length_append, List.length_append, List.length_append, List.length_append]; have := HL0.out; have := HL1.out; have := HL2.out; simp; omega)).mono ?_
  rintro e w8 ⟨rfl, hw8⟩
  rw [ba_data] at hw8
  have HK8 := Lib.hid (hw8.kp _ _ _ HK7.out (by decide) (by decide))
  have H8 := Lib.hid (H7.out.trans hw8)
  clear hw8
  have g8 := (HK8.out.cell 0).trans E0.out
  obtain ⟨q, hq⟩ : ∃ q, t ++ numL n0 ++ [32] ++ numL n1 ++ [32] ++ numL n2 = q := ⟨_, rfl⟩
  have hql : q.length ≤ 2000 := by rw [← hq, List.length_append, List.length_append, List.length_append, List.length_append, List.length_append]; have := HL0.out; have := HL1.out; have := HL2.out; simp; omega
  rw [hq] at H8
  have HQ := Lib.hid hq
  clear hq
  go_wp2
  go_loopw [31] (fun i wr => WcRel B b q w g cs l0 n0 i wr) (fun i _ => n0 - (intOf i).toNat)
  case atStart => exact ⟨0, Nat.zero_le _, rfl, by simpa using H8.out, HK8.out⟩
  case round =>
    clear g8
    obtain ⟨k, hk, rfl, hwr, hkr⟩ := hrel
    have H9 := Lib.hid hwr
    have HK9 := Lib.hid hkr
    clear hwr hkr
    by_cases hlt : k < n0
    · obtain ⟨f, hf⟩ : ∃ f, l0[k]? = some f := ⟨_, List.getElem?_eq_getElem (by rw [HLN0.out]; exact hlt)⟩
      obtain ⟨b', off, rfl, hbB, hc1⟩ := (HR0.out.below H9.out.lo).at_ hf
      have hkz : (k : Int) < (n0 : Int) := by omega
      have hsz := HS0.out.2 f (List.mem_of_getElem? hf)
      have htk := HS0.out.take k
      have HF := Lib.hid hf
      clear hf
      go_wp2_with fail
      refine (writeText_any B b (q ++ (l0.take k).flatMap txL) f wr H9.out.bw (HE.out.belowB HB.out H9.out.lo) HB.out (by rw [List.length_append]; omega) (by omega)).mono ?_
      rintro e w10 ⟨rfl, hw10⟩
      have HK10 := Lib.hid (hw10.kp _ _ _ HK9.out (by decide) (by decide))
      have H10 := Lib.hid (H9.out.trans hw10)
      clear hw10
      go_wp2
      go_roundw
      case rel =>
        refine ⟨k + 1, by omega, by go_num, ?_, HK10.out⟩
        have := H10.out
        rwa [List.append_assoc, ← take_flat HF.out] at this
      case measure => simp [intOf]; omega
    · obtain rfl : k = n0 := by omega
      have H10 : Hid (Wrt B b (q ++ l0.flatMap txL) w wr) := by
        have := H9.out
        rwa [List.take_of_length_le (by rw [HLN0.out]; exact Nat.le_refl _)] at this
      have hz0 := HS0.out.take k
      rw [List.take_of_length_le (by rw [HLN0.out]; exact Nat.le_refl _)] at hz0
      have hz1 := HS1.out.take n1
      rw [List.take_of_length_le (by rw [HLN1.out]; exact Nat.le_refl _)] at hz1
      have HZ0 := Lib.hid hz0
      have HZ1 := Lib.hid hz1
      clear hz0 hz1
      have g10 := (HK9.out.cell 1).trans E1.out
      go_wp2_with fail
      refine (writeFiles_any B b (q ++ l0.flatMap txL) A1 n1 c1 l1 wr H10.out.bw (HE.out.belowB HB.out H10.out.lo) HB.out (HR1.out.below H10.out.lo) HS1.out (by rw [List.length_append]; have := HZ0.out; omega)).mono ?_
      rintro e w11 ⟨rfl, hw11⟩
      have HK11 := Lib.hid (hw11.kp _ _ _ HK9.out (by decide) (by decide))
      have H11 := Lib.hid (H10.out.trans hw11)
      clear hw11 g10
      have g11 := (HK11.out.cell 2).trans E2.out
      go_wp2_with fail
      refine (writeFiles_any B b (q ++ l0.flatMap txL ++ l1.flatMap flL) A2 n2 c2 l2 w11 H11.out.bw (HE.out.belowB HB.out H11.out.lo) HB.out (HR2.out.below H11.out.lo) HS2.out (by rw [List.length_append, List.length_append]; have := HZ0.out; have := HZ1.out; omega)).mono ?_
      rintro e w12 ⟨rfl, hw12⟩
      have H12 := Lib.hid (H11.out.trans hw12)
      clear hw12 g11
      go_wp2
      go_end0
      refine ⟨rfl, ?_⟩
      have := H12.out
      rw [← HQ.out] at this
      rwa [show t ++ numL k ++ [32] ++ numL n1 ++ [32] ++ numL n2 ++ l0.flatMap txL ++ l1.flatMap flL ++ l2.flatMap flL = t ++ recL (l0, l1, l2) by simp [recL, hdL, HLN0.out, HLN1.out, HLN2.out]] at this

set_option maxRecDepth 100000 in
set_option maxHeartbeats 2000000 in
theorem text_any (A0 A1 A2 : Option Addr) (n0 c0 n1 c1 n2 c2 : Nat) (l0 : List ByteArray) (l1 l2 : List F) (w : World) (hE : Env w)
    (hr0 : RdS w w.heap.size A0 n0 c0 l0) (hr1 : RdF w w.heap.size A1 n1 c1 l1) (hr2 : RdF w w.heap.size A2 n2 c2 l2) (hl0 : ShrtT l0) (hl1 : Shrt l1) (hl2 : Shrt l2) :
    Calls Tryz.prog 12 #[.agg #[.slice A0 n0 c0, .slice A1 n1 c1, .slice A2 n2 c2]] w fun e w' => e = .returned (.string (ba (recL (l0, l1, l2)))) ∧ Below w.heap.size w w' := by
  have hmf : ∀ (fn : Fn) (first cap : Array Value) (w : World), (Instr.makeFunc fn first cap).run Tryz.prog w = .ok (.func fn first cap) w := fun _ _ _ _ => rfl
  have hbl : Below w.heap.size w ((w.alloc (.cells #[.slice A0 n0 c0, .slice A1 n1 c1, .slice A2 n2 c2] 27)).alloc (.cells #[.pointer none, .slice none 0 0] tBd)) := ((Below.refl _ w).alloc (Nat.le_refl _) _).alloc (by simp) _
  have hib : Bw w.heap.size (w.heap.size + 1) [] ((w.alloc (.cells #[.slice A0 n0 c0, .slice A1 n1 c1, .slice A2 n2 c2] 27)).alloc (.cells #[.pointer none, .slice none 0 0] tBd)) := by
    have := Lib.fresh_isBuilder tBd tBy (w.alloc (.cells #[.slice A0 n0 c0, .slice A1 n1 c1, .slice A2 n2 c2] 27))
    simp only [World.size_alloc] at this
    refine ⟨?_, hbl.size⟩
    have key : ∀ {q : Value} {u : World}, Lib.BuilderAt tBd tBy (w.heap.size + 1) (w.heap.size + 1) q [] u → Lib.BuilderAt tBd tBy w.heap.size (w.heap.size + 1) q [] u := fun {q u} h => by
      obtain ⟨h1, v, h2, h3, h4⟩ := h
      refine ⟨by omega, v, h2, ?_, h4⟩
      refine ⟨h3.1, ?_⟩
      rcases h3.2 with k | ⟨g, cap, cur, k1, k2, k3⟩
      · exact .inl k
      · exact .inr ⟨g, cap, cur, k1, by omega, k3⟩
    exact this.imp key key
  have hk := (Blk.new w 27 #[.slice A0 n0 c0, .slice A1 n1 c1, .slice A2 n2 c2]).alloc (.cells #[.pointer none, .slice none 0 0] tBd)
  have c0' := hk.cell 0
  have c1' := hk.cell 1
  have c2' := hk.cell 2
  have HBL := Lib.hid hbl
  have HIB := Lib.hid hib
  have HE := Lib.hid hE
  have HR0 := Lib.hid hr0
  have HR1 := Lib.hid hr1
  have HR2 := Lib.hid hr2
  have HS0 := Lib.hid hl0
  have HS1 := Lib.hid hl1
  have HS2 := Lib.hid hl2
  clear hbl hib hE hr0 hr1 hr2 hl0 hl1 hl2 hk
  go_enter Tryz.func12, Tryz.ntmps12
  go_wp2_with fail
  generalize hwz : (w.alloc (.cells #[.slice A0 n0 c0, .slice A1 n1 c1, .slice A2 n2 c2] 27)).alloc (.cells #[.pointer none, .slice none 0 0] tBd) = wz at *
  clear hwz
  refine (write_any w.heap.size (w.heap.size + 1) [] A0 A1 A2 n0 c0 n1 c1 n2 c2 l0 l1 l2 wz HIB.out (HE.out.below HBL.out) HE.out.B (HR0.out.below HBL.out) (HR1.out.below HBL.out) (HR2.out.below HBL.out) HS0.out HS1.out HS2.out (by simp)).mono ?_
  rintro e w1 ⟨rfl, hw1⟩
  rw [List.nil_append] at hw1
  have H1 := Lib.hid hw1
  clear hw1 c0' c1' c2'
  go_wp2_with fail
  have hst := Tryz.Builder_String_any w.heap.size (w.heap.size + 1) (recL (l0, l1, l2)) w1 (by have := H1.out.bw.1; rwa [show Lib.strCells (ba (recL (l0, l1, l2))) = Lib.byteCells (recL (l0, l1, l2)) by simp [Lib.strCells, Lib.byteCells, ba_data]] at this) H1.out.bw.2
  refine hst.mono ?_
  rintro e w2 ⟨rfl, hb2⟩
  have HB2 := Lib.hid hb2
  clear hb2 hst
  go_wp2
  go_ret
  exact ⟨rfl, (HBL.out.trans H1.out.lo).trans HB2.out⟩
end Go.Proofs.YtpghfefiifhbiaaGreatDoor
