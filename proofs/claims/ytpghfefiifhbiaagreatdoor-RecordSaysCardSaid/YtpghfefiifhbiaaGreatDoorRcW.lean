/-
  WALKS: record.writeText, writeFiles, write, Text: what they write.
-/
import Derived.Test.YtpghfefiifhbiaaGreatDoorRcB
import Derived.Test.YtpghfefiifhbiaaGreatDoorRd
import Derived.Test.YtpghfefiifhbiaaGreatDoorTexts
import Derived.Deep.LoopGhost
namespace Go.Proofs.YtpghfefiifhbiaaGreatDoor
open Go.RowKit Go.Sort

theorem numL_short {n : Nat} (h : n ≤ 1000000) : (numL n).length ≤ 9 := numL_len (by omega)
theorem ba1 (c : UInt8) : (⟨#[c]⟩ : ByteArray).data.toList = [c] := rfl
theorem data_len (s : ByteArray) : s.data.toList.length = s.size := by simp
set_option maxRecDepth 100000 in
set_option maxHeartbeats 2000000 in
theorem writeText_any (B b : Nat) (t : Bs) (s : ByteArray) (w : World) (h : Bw B b t w) (hE : Env w) (hB : EnvB B) (ht : t.length ≤ 100000000) (hs : s.size ≤ 1000000) :
    Calls Tryz.prog 41 #[.string s, putV b] w fun e w' => e = .returned (.tuple #[]) ∧ Wrt B b (t ++ txL s) w w' := by
  have hlen := numL_short hs
  have hbl := ba_size (numL s.size)
  have HE := Lib.hid hE
  have HB := Lib.hid hB
  have HW := Lib.hid h
  have HL := Lib.hid hlen
  have HBL := Lib.hid hbl
  clear hE hB h hlen hbl
  go_enter Tryz.func41, Tryz.ntmps41
  go_wp2_with fail
  refine (put1_any B b t ⟨#[32]⟩ w HW.out (by show t.length + 1 ≤ _; omega)).mono ?_
  rintro e w1 ⟨rfl, hw1⟩
  rw [ba1] at hw1
  have H1 := Lib.hid hw1
  clear hw1
  go_wp2_with fail
  refine (itoa_any s.size (by omega) w1 (HE.out.belowB HB.out H1.out.lo)).mono ?_
  rintro e w2 ⟨rfl, hb2⟩
  have H2 := Lib.hid (H1.out.trans (Wrt.of_below H1.out.bw hb2))
  clear hb2
  go_wp2_with fail
  refine (put1_any B b (t ++ [32]) (ba (numL s.size)) w2 H2.out.bw (by rw [List.length_append, HBL.out]; have := HL.out; simp; omega)).mono ?_
  rintro e w3 ⟨rfl, hw3⟩
  rw [ba_data] at hw3
  have H3 := Lib.hid (H2.out.trans hw3)
  clear hw3
  go_wp2_with fail
  refine (put1_any B b (t ++ [32] ++ numL s.size) ⟨#[58]⟩ w3 H3.out.bw (by rw [List.length_append, List.length_append]; have := HL.out; show _ + 1 ≤ _; simp; omega)).mono ?_
  rintro e w4 ⟨rfl, hw4⟩
  rw [ba1] at hw4
  have H4 := Lib.hid (H3.out.trans hw4)
  clear hw4
  go_wp2_with fail
  refine (put1_any B b (t ++ [32] ++ numL s.size ++ [58]) s w4 H4.out.bw (by rw [List.length_append, List.length_append, List.length_append]; have := HL.out; simp; omega)).mono ?_
  rintro e w5 ⟨rfl, hw5⟩
  have H5 := Lib.hid (H4.out.trans hw5)
  clear hw5
  go_wp2
  go_end0
  refine ⟨rfl, ?_⟩
  have := H5.out
  rwa [show t ++ [32] ++ numL s.size ++ [58] ++ s.data.toList = t ++ txL s by simp [txL]] at this

def WfRel (B b : Nat) (t : Bs) (w : World) (l : List F) (n : Nat) (i : Value) (wr : World) : Prop := ∃ k : Nat, k ≤ n ∧ i = .int .i64 k ∧ Wrt B b (t ++ (l.take k).flatMap flL) w wr
theorem txL_len {s : ByteArray} (h : s.size ≤ 1000000) : (txL s).length ≤ s.size + 11 := by
  have := numL_short h
  simp [txL]
  omega
theorem flL_len {f : F} (h1 : f.1.size ≤ 1000) (h2 : f.2.size ≤ 1000) : (flL f).length ≤ 2100 := by
  have := txL_len (s := f.2) (by omega)
  simp [flL]
  omega
theorem flat_len {α : Type} {g : α → Bs} {m : Nat} : ∀ {l : List α}, (∀ a ∈ l, (g a).length ≤ m) → (l.flatMap g).length ≤ l.length * m
  | [], _ => by simp
  | a :: l, h => by
    have h1 := h a (by simp)
    have h2 := flat_len (l := l) (fun x hx => h x (by simp [hx]))
    rw [List.flatMap_cons, List.length_append, List.length_cons, Nat.succ_mul]
    omega
theorem take_flat {α : Type} {g : α → Bs} {l : List α} {k : Nat} {a : α} (h : l[k]? = some a) : (l.take (k + 1)).flatMap g = (l.take k).flatMap g ++ g a := by
  rw [List.take_add_one, h]
  simp
def Shrt (l : List F) : Prop := l.length ≤ 1000 ∧ ∀ f ∈ l, f.1.size ≤ 1000 ∧ f.2.size ≤ 1000
theorem Shrt.take {l : List F} (h : Shrt l) (k : Nat) : ((l.take k).flatMap flL).length ≤ 2100000 := by
  have h1 : ((l.take k).flatMap flL).length ≤ (l.take k).length * 2100 := flat_len (fun a ha => flL_len (h.2 a (List.mem_of_mem_take ha)).1 (h.2 a (List.mem_of_mem_take ha)).2)
  have h2 : (l.take k).length ≤ l.length := by rw [List.length_take]; omega
  have h3 := h.1
  have h4 : (l.take k).length * 2100 ≤ 1000 * 2100 := Nat.mul_le_mul_right _ (by omega)
  omega
set_option maxRecDepth 100000 in
set_option maxHeartbeats 4000000 in
theorem writeFiles_any (B b : Nat) (t : Bs) (A : Option Addr) (n c : Nat) (l : List F) (w : World) (h : Bw B b t w) (hE : Env w) (hB : EnvB B) (hr : RdF w B A n c l) (hl : Shrt l) (ht : t.length ≤ 10000000) :
    Calls Tryz.prog 42 #[.slice A n c, putV b] w fun e w' => e = .returned (.tuple #[]) ∧ Wrt B b (t ++ l.flatMap flL) w w' := by
  have hn : n ≤ 1000 := by have := hl.1; rw [hr.1] at this; exact this
  have HLN := Lib.hid hr.1
  have HE := Lib.hid hE
  have HB := Lib.hid hB
  have HW := Lib.hid h
  have HR := Lib.hid hr
  have HS := Lib.hid hl
  clear hE hB h hr hl
  go_enter Tryz.func42, Tryz.ntmps42
  go_wp2
  go_loopw [8] (fun i wr => WfRel B b t w l n i wr) (fun i _ => n - (intOf i).toNat)
  case atStart => exact ⟨0, Nat.zero_le _, rfl, by have := HW.out; refine ⟨by simpa using this, Below.refl _ _, KpT.refl _⟩⟩
  case round =>
    obtain ⟨k, hk, rfl, hwr⟩ := hrel
    have H0 := Lib.hid hwr
    clear hwr
    by_cases hlt : k < n
    · obtain ⟨f, hf⟩ : ∃ f, l[k]? = some f := ⟨_, List.getElem?_eq_getElem (by rw [HLN.out]; exact hlt)⟩
      obtain ⟨b', off, rfl, hbB, hc1, hc2⟩ := (HR.out.below H0.out.lo).at_ hf
      have hkz : (k : Int) < (n : Int) := by omega
      have hsz := HS.out.2 f (List.mem_of_getElem? hf)
      have htk := HS.out.take k
      have HF := Lib.hid hf
      obtain ⟨x, y⟩ := f
      obtain ⟨q, hq⟩ : ∃ q, t ++ (l.take k).flatMap flL = q := ⟨_, rfl⟩
      have hql : q.length ≤ 20000000 := by rw [← hq, List.length_append]; omega
      rw [hq] at H0
      have HQ := Lib.hid hq
      dsimp only at hsz hc1 hc2
      obtain ⟨hx, hy⟩ := hsz
      clear hf hq htk
      have hnew := Blk.new wr 44 #[.string x, .string y]
      have hb0 : Below wr.heap.size wr (wr.alloc (.cells #[.string x, .string y] 44)) := (Below.refl _ _).alloc (Nat.le_refl _) _
      have H0' := Lib.hid (H0.out.trans (Wrt.of_below H0.out.bw hb0))
      have HN := Lib.hid hnew
      clear hnew hb0
      go_wp2_with fail
      generalize hwz : wr.alloc (.cells #[.string x, .string y] 44) = wz at *
      clear hwz
      refine (put1_any B b q ⟨#[32]⟩ wz H0'.out.bw (by show q.length + 1 ≤ _; omega)).mono ?_
      rintro e w1 ⟨rfl, hw1⟩
      rw [ba1] at hw1
      have HN1 := Lib.hid (hw1.kp _ _ _ HN.out (by decide) (by decide))
      have H1 := Lib.hid (H0'.out.trans hw1)
      clear hw1
      have g1 := HN1.out.cell 0
      go_wp2_with fail
      refine (put1_any B b (q ++ [32]) x w1 H1.out.bw (by rw [List.length_append]; simp; omega)).mono ?_
      rintro e w2 ⟨rfl, hw2⟩
      have HN2 := Lib.hid (hw2.kp _ _ _ HN1.out (by decide) (by decide))
      have H2 := Lib.hid (H1.out.trans hw2)
      clear hw2 g1
      have g2 := HN2.out.cell 1
      go_wp2_with fail
      refine (writeText_any B b (q ++ [32] ++ x.data.toList) y w2 H2.out.bw (HE.out.belowB HB.out H2.out.lo) HB.out (by rw [List.length_append, List.length_append]; simp; omega) (by omega)).mono ?_
      rintro e w3 ⟨rfl, hw3⟩
      have H3 := Lib.hid (H2.out.trans hw3)
      clear hw3 g2
      go_wp2
      go_roundw
      case rel =>
        refine ⟨k + 1, by omega, by go_num, ?_⟩
        have := H3.out
        rw [take_flat HF.out, ← List.append_assoc, HQ.out]
        rwa [show q ++ [32] ++ x.data.toList ++ txL y = q ++ flL (x, y) by simp [flL]] at this
      case measure => simp [intOf]; omega
    · obtain rfl : k = n := by omega
      go_wp2
      go_end0
      refine ⟨rfl, ?_⟩
      have := H0.out
      rwa [List.take_of_length_le (by rw [HLN.out]; exact Nat.le_refl _)] at this
end Go.Proofs.YtpghfefiifhbiaaGreatDoor
