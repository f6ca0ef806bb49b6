/-
  WALK: the iterator of store.pieces, over rows that may be.
-/
import Derived.Test.YtgkenknplepmeaaSrA
import Derived.RangeFuncNested
import Derived.RangeFuncBound
import Derived.RangeFuncCalls
import Derived.RangeFuncLeaves
import Derived.Shelf.Abstract
import Derived.WalkKit
import Derived.OwnWalkIn
import Derived.TacticsInMore
import Derived.LoopNIn
import Derived.LoopIn
import Derived.Test.YtgkenknplepmeaaLgR
namespace Go.Proofs.Ytgkenknplepmeaa
open Go.RowKit Go.Sort

theorem ext_list (s : ByteArray) (i j : Nat) : (s.extract i j).data.toList = (s.data.toList.drop i).take (j - i) := extract_list s i j
theorem ext_size {s : ByteArray} {i j : Nat} (h : j ≤ s.size) : (s.extract i j).size = j - i := by
  rw [← len_list, ext_list, List.length_take, List.length_drop, len_list]
  omega
theorem ext_app {s : ByteArray} {i j k : Nat} (h1 : i ≤ j) (h2 : j ≤ k) : s.extract i j ++ s.extract j k = s.extract i k := list_eq (by
  rw [ByteArray.data_append, Array.toList_append, ext_list, ext_list, ext_list]
  have e : k - i = (j - i) + (k - j) := by omega
  rw [e, List.take_add, List.drop_drop, show i + (j - i) = j by omega])
theorem ext_ext {s : ByteArray} {i j a b : Nat} (hb : i + b ≤ j) : (s.extract i j).extract a b = s.extract (i + a) (i + b) := list_eq (by
  rw [ext_list, ext_list, ext_list, List.drop_take, List.take_take, List.drop_drop]
  congr 1
  omega)
theorem ext_self (s : ByteArray) : s.extract 0 s.size = s := list_eq (by
  rw [ext_list, List.drop_zero, Nat.sub_zero, ← len_list, List.take_length])
theorem rowsR_app : ∀ (a b : List Ch), rowsR (a ++ b) = rowsR a ++ rowsR b
  | [], b => list_eq (by rw [ByteArray.data_append]; simp [rowsR])
  | c :: r, b => by
    show rowR c ++ rowsR (r ++ b) = rowR c ++ rowsR r ++ rowsR b
    rw [rowsR_app r b, ByteArray.append_assoc]
theorem rowsR_one (c : Ch) : rowsR [c] = rowR c := list_eq (by
  show (rowR c ++ (⟨#[]⟩ : ByteArray)).data.toList = _
  rw [ByteArray.data_append]
  simp)
/-- Where row k begins. -/
def tkR (l : List Ch) (k : Nat) : Nat := (rowsR (l.take k)).size
theorem tkR_zero (l : List Ch) : tkR l 0 = 0 := rfl
theorem tkR_succ {l : List Ch} {k : Nat} {c : Ch} (h : l[k]? = some c) : tkR l (k + 1) = tkR l k + (rowR c).size := by
  unfold tkR
  rw [List.take_add_one, h, rowsR_app, ByteArray.size_append]
  show _ = _ + _
  rw [show (some c).toList = [c] from rfl, rowsR_one]
theorem tkR_all {l : List Ch} {k : Nat} (h : l.length ≤ k) : tkR l k = (rowsR l).size := by unfold tkR; rw [List.take_of_length_le h]
theorem tkR_le (l : List Ch) (k : Nat) : tkR l k ≤ (rowsR l).size := by
  have e : rowsR l = rowsR (l.take k) ++ rowsR (l.drop k) := by rw [← rowsR_app, List.take_append_drop]
  unfold tkR
  rw [e, ByteArray.size_append]
  omega
theorem row_ext {l : List Ch} {k : Nat} {c : Ch} (h : l[k]? = some c) : (rowsR l).extract (tkR l k) (tkR l (k + 1)) = rowR c := by
  have hk : k < l.length := (List.getElem?_eq_some_iff.1 h).1
  have e : rowsR l = rowsR (l.take k) ++ (rowR c ++ rowsR (l.drop (k + 1))) := by
    have : l = l.take k ++ c :: l.drop (k + 1) := by
      have hc := (List.getElem?_eq_some_iff.1 h).2
      rw [← hc, ← List.drop_eq_getElem_cons hk, List.take_append_drop]
    conv => lhs; rw [this]
    rw [rowsR_app]
    rfl
  rw [tkR_succ h, e]
  refine list_eq ?_
  rw [ext_list, ByteArray.data_append, ByteArray.data_append, Array.toList_append, Array.toList_append]
  have := take_mid (rowsR (l.take k)).data.toList (rowR c).data.toList (rowsR (l.drop (k + 1))).data.toList (tkR l k) (tkR l k + (rowR c).size - tkR l k) (len_list _) (by rw [len_list]; omega)
  rw [List.append_assoc] at this
  exact this
/-- The first j pieces; all pieces. -/
def fullR (S : ByteArray) (j : Nat) : List ByteArray := (List.range j).map (fun i => S.extract (i * 340) (i * 340 + 340))
def chunksR (S : ByteArray) : List ByteArray := fullR S (S.size / 340) ++ (if S.size % 340 = 0 then [] else [S.extract (S.size / 340 * 340) S.size])
theorem fullR_succ (S : ByteArray) (j : Nat) : fullR S (j + 1) = fullR S j ++ [S.extract (j * 340) (j * 340 + 340)] := by simp [fullR, List.range_succ]
theorem fullR_len (S : ByteArray) (j : Nat) : (fullR S j).length = j := by simp [fullR]
theorem chunksR_len (S : ByteArray) : (chunksR S).length = (S.size + 339) / 340 := by
  unfold chunksR
  rw [List.length_append, fullR_len]
  split
  · show _ + 0 = _; omega
  · show _ + 1 = _; omega
theorem chunksR_at (S : ByteArray) {i : Nat} (h : i < (S.size + 339) / 340) : (chunksR S)[i]? = some (S.extract (i * 340) (min (i * 340 + 340) S.size)) := by
  unfold chunksR
  by_cases hi : i < S.size / 340
  · rw [List.getElem?_append_left (by rw [fullR_len]; exact hi)]
    unfold fullR
    rw [List.getElem?_map, List.getElem?_range hi]
    rw [show min (i * 340 + 340) S.size = i * 340 + 340 by omega]
    rfl
  · rw [List.getElem?_append_right (by rw [fullR_len]; omega), fullR_len, if_neg (by omega)]
    obtain rfl : i = S.size / 340 := by omega
    rw [Nat.sub_self, show min (S.size / 340 * 340 + 340) S.size = S.size by omega]
    rfl
theorem chunksR_small (S : ByteArray) : ∀ s ∈ chunksR S, s.size ≤ 340 := fun s hs => by
  obtain ⟨i, hi, e⟩ := List.mem_iff_getElem.1 hs
  have h := chunksR_at S (i := i) (by rw [chunksR_len] at hi; exact hi)
  rw [List.getElem?_eq_getElem hi, e] at h
  injection h with h
  rw [h, ext_size (by omega)]
  omega
/-- How many bytes the first pieces have. -/
def sumR (l : List ByteArray) : Nat := l.foldl (fun n s => n + s.size) 0
theorem sumR_snoc (l : List ByteArray) (s : ByteArray) : sumR (l ++ [s]) = sumR l + s.size := by simp [sumR]
theorem sumR_full {S : ByteArray} (j : Nat) : j * 340 ≤ S.size → sumR (fullR S j) = j * 340 := by
  induction j with
  | zero => intro _; simp [fullR, sumR]
  | succ j ih =>
    intro h
    have h1 : j * 340 ≤ S.size := Nat.le_trans (Nat.mul_le_mul_right 340 (Nat.le_succ j)) h
    have h2 : j * 340 + 340 ≤ S.size := by rw [Nat.succ_mul] at h; exact h
    rw [fullR_succ, sumR_snoc, ih h1, ext_size h2, Nat.succ_mul, Nat.add_sub_cancel_left]
theorem sumR_chunks (S : ByteArray) : sumR (chunksR S) = S.size := by
  unfold chunksR
  split
  · rw [List.append_nil, sumR_full _ (by omega)]; omega
  · rw [sumR_snoc, sumR_full _ (by omega), ext_size (by omega)]; omega
end Go.Proofs.Ytgkenknplepmeaa
namespace Go.Proofs.Ytgkenknplepmeaa
open Go.RowKit Go.Shelf Go.Sort
attribute [local go_sem] Oper.semAt_some

structure PcSt (b0 Bs : Nat) (A : Option Addr) (len cap : Nat) (rows : List Ch) (w : World) : Prop where
  bs : Blk w Bs tSl #[.slice A len cap]
  kp : KpC w b0 A len cap rows
  b0 : b0 ≤ w.heap.size
theorem PcSt.fr {b0 Bs len cap : Nat} {A : Option Addr} {rows : List Ch} {w w' : World} (h : PcSt b0 Bs A len cap rows w) (hk : Fr b0 w w') : PcSt b0 Bs A len cap rows w' :=
  ⟨hk.sl _ _ h.bs, h.kp.keep hk, Nat.le_trans h.b0 hk.size⟩
theorem PcSt.below {b0 Bs len cap : Nat} {A : Option Addr} {rows : List Ch} {w w' : World} (h : PcSt b0 Bs A len cap rows w) (hb : Below w.heap.size w w') : PcSt b0 Bs A len cap rows w' := h.fr (Fr.of_below hb h.b0)
theorem abide_below {β : Type} {B : Nat} {J : β → World → Prop} (hJ : AbidesFrom B J) {s : β} {w w' : World} (h : J s w) (hb : Below w.heap.size w w') : J s w' :=
  hJ s w w' none h ⟨hb.os, hb.tape, hb.output, hb.size, fun k hk _ => hb.block k hk⟩ (fun r e => by cases e)
def strLen : Value → Nat
  | .string s => s.size
  | _ => 0
def PcOut (W : World) (b0 Bs : Nat) (A : Option Addr) (len cap : Nat) (rows : List Ch) (J : List ByteArray → World → Prop) (v3 v10 : Value) (wr : World) : Prop :=
  ∃ k j : Nat, k ≤ len ∧ v10 = .int .i64 k ∧ v3 = .string ((rowsR rows).extract (j * 340) (tkR rows k)) ∧ j * 340 ≤ tkR rows k ∧ tkR rows k < j * 340 + 340 ∧ J (fullR (rowsR rows) j) wr ∧ PcSt b0 Bs A len cap rows wr
def PcIn (b0 Bs : Nat) (A : Option Addr) (len cap : Nat) (rows : List Ch) (J : List ByteArray → World → Prop) (t : Nat) (v3 : Value) (wr : World) : Prop :=
  ∃ j : Nat, v3 = .string ((rowsR rows).extract (j * 340) t) ∧ j * 340 ≤ t ∧ J (fullR (rowsR rows) j) wr ∧ PcSt b0 Bs A len cap rows wr
def PcPost (rows : List Ch) (J Jx : List ByteArray → World → Prop) (e : Ending) (W' : World) : Prop :=
  (∃ v, e = .returned v) ∧ ((∃ ys, ys = chunksR (rowsR rows) ∧ J ys W') ∨ (∃ pre, (∃ k, pre = (chunksR (rowsR rows)).take k) ∧ Jx pre W'))
theorem ext_none (s : ByteArray) (i : Nat) : s.extract i i = ⟨#[]⟩ := list_eq (by rw [ext_list, Nat.sub_self]; rfl)
theorem full_take {S : ByteArray} {j : Nat} (h : j ≤ S.size / 340) : fullR S j = (chunksR S).take j := by
  unfold chunksR
  rw [List.take_append_of_le_length (by rw [fullR_len]; exact h)]
  unfold fullR
  rw [← List.map_take, List.take_range, Nat.min_eq_left h]

set_option maxRecDepth 100000 in
set_option maxHeartbeats 4000000 in
theorem pieces1_in (n : Nat) (hn : 3 ≤ n) (l Bs b0 : Nat) (A : Option Addr) (len cap : Nat) (rows : List Ch) (hS : (rowsR rows).size ≤ 7140) (hlen : len ≤ 1000) (hck : ∀ c ∈ rows, ckR c = 0) (B0 : Nat) (J Jx : List ByteArray → World → Prop) (hJ : AbidesFrom B0 J)
    (hY : ∀ pre (x : ByteArray) W, x.size ≤ 340 → J pre W → pre.length < 22 → YieldAt Fence.wide (n - 1) Try.prog l #[.string x] W fun e W' =>
      (e = .returned (.bool true) ∧ J (pre ++ [x]) W' ∧ Fr b0 W W') ∨ (e = .returned (.bool false) ∧ Jx (pre ++ [x]) W'))
    (W : World) (hst : PcSt b0 Bs A len cap rows W) (h0 : J [] W) :
    CallsIn Fence.wide n Try.prog 115 #[.func (.yield l) #[] #[], .pointer (some ⟨Bs, 0, none⟩)] W (PcPost rows J Jx) := by
  have hrl := hst.kp.1.1
  have HL := Lib.hid hrl
  have c1 : W.cell? ⟨Bs, 0, none⟩ = some (.slice A len cap) := hst.bs.cell 0
  have hlc := hst.kp.1.2.1
  have hlm := hst.kp.1.2.2.1
  have HST := Lib.hid hst
  unfold maxLen at hlm
  clear hst hrl
  refine callsIn_of_wp Try.func115 rfl trivial ?_ rfl
  simp only [Try.ntmps115, List.size_toArray, List.length_cons, List.length_nil, Nat.reduceAdd, Nat.reduceSub, Array.replicate_succ, Array.replicate_zero, List.push_toArray, List.append_toArray, List.nil_append, List.cons_append]
  gi_wp2
  gi_loopw [3, 10] (fun v3 v10 wr => PcOut W b0 Bs A len cap rows J v3 v10 wr) (fun _ i _ => len - (intOf i).toNat)
  case atStart => exact ⟨0, 0, Nat.zero_le _, rfl, by rw [tkR_zero, Nat.zero_mul, ext_none], Nat.zero_le _, by rw [tkR_zero]; omega, h0, HST.out⟩
  case round =>
    obtain ⟨k, j, hk, rfl, rfl, hj1, hj2, hJs, hst⟩ := hrel
    have HSR := Lib.hid hst
    have HJS := Lib.hid hJs
    clear hst hJs HST
    by_cases hlt : k < len
    · obtain ⟨c, hc⟩ : ∃ c, rows[k]? = some c := ⟨_, List.getElem?_eq_getElem (by have := HL.out; omega)⟩
      obtain ⟨b, off, rfl, hb, y0, y1, y2⟩ := HSR.out.kp.1.at_ hc
      have hkn : (k : Int) < (len : Int) := by omega
      have hcc := hck c (List.mem_of_getElem? hc)
      have hcs : c.key.size ≤ 1000000 ∧ c.val.size ≤ 1000000 := by
        have h1 := ckR_val hcc
        have h2 := (enc_small hcc)
        rw [encR_size] at h2
        exact ⟨by omega, by omega⟩
      have hts := tkR_succ hc
      have hrx := row_ext hc
      have htl : tkR rows (k + 1) ≤ (rowsR rows).size := tkR_le rows (k + 1)
      have heS : encS c = encR c := by unfold encS; rw [if_pos hcc]
      have hpc : Below wr.heap.size wr (wr.alloc (.cells #[.string c.key, .string c.val, .bool c.gone] tCh)) := (Below.refl _ _).alloc (Nat.le_refl _) _
      have hst1 := HSR.out.below hpc
      have hJ1 := abide_below hJ HJS.out hpc
      have z0 := (Blk.new wr tCh #[.string c.key, .string c.val, .bool c.gone]).cell 0
      have z1 := (Blk.new wr tCh #[.string c.key, .string c.val, .bool c.gone]).cell 1
      have z2 := (Blk.new wr tCh #[.string c.key, .string c.val, .bool c.gone]).cell 2
      have HS1 := Lib.hid hst1
      have HJ1 := Lib.hid hJ1
      have HB := Lib.hid (rowBytes_any c (wr.alloc (.cells #[.string c.key, .string c.val, .bool c.gone] tCh)) hcs.1 hcs.2)
      unfold Ch.v encV at HB
      rw [if_pos hcc] at HB
      clear hst1 hJ1 hpc HSR HJS hc
      have hez : (encR c).size ≤ 312 := enc_small hcc
      have hw64 : IntKind.u64.wrap ((encR c).size : Int) = ((encR c).size : Int) := u64_nat _ (by omega)
      have HNB := Lib.hid (fun W => number_all (encR c).size 2 W (by omega) (by omega))
      rw [show ((2 : Nat) : Int) = 2 from rfl] at HNB
      have hrr : (rowR c).size = 2 + (encR c).size := by
        unfold rowR
        rw [ByteArray.size_append, numR_size]
      have hn2 : (numR (encR c).size 2).size = 2 := numR_size _ _
      have hov1 : ¬ 9223372036854775807 < (numR (encR c).size 2).size + (encR c).size := by omega
      have hrs : ((rowsR rows).extract (j * 340) (tkR rows k)).size = tkR rows k - j * 340 := ext_size (tkR_le rows k)
      have hov2 : ¬ 9223372036854775807 < ((rowsR rows).extract (j * 340) (tkR rows k)).size + (numR (encR c).size 2 ++ encR c).size := by
        rw [ByteArray.size_append]; omega
      have HNX := Lib.hid (show (rowsR rows).extract (j * 340) (tkR rows k) ++ (numR (encR c).size 2 ++ encR c) = (rowsR rows).extract (j * 340) (tkR rows (k + 1)) by
        have e : numR (encR c).size 2 ++ encR c = rowR c := by unfold rowR; rfl
        rw [e, ← hrx, ext_app hj1 (by omega)])
      have hj3 : j * 340 ≤ tkR rows (k + 1) := by omega
      clear hrx hrr hn2 hrs hts hw64
      gi_wp2
      refine ⟨trivial, fun _ => by omega, (callsIn_wide.2 HB.out).mono ?_⟩
      rintro e w2 ⟨rfl, hb2⟩
      have HS2 := Lib.hid (HS1.out.below hb2)
      have HJ2 := Lib.hid (abide_below hJ HJ1.out hb2)
      clear hb2 HS1 HJ1 HB
      gi_wp2
      refine ⟨trivial, fun _ => by omega, (callsIn_wide.2 (HNB.out _)).mono ?_⟩
      rintro e w3 ⟨rfl, hg3⟩
      have HS3 := Lib.hid (HS2.out.below hg3.below)
      have HJ3 := Lib.hid (abide_below hJ HJ2.out hg3.below)
      clear hg3 HS2 HJ2 HNB
      gi_wp2
      gi_loopw [3] (fun v3 w4 => PcIn b0 Bs (some ⟨b, off, none⟩) len cap rows J (tkR rows (k + 1)) v3 w4) (fun v _ => strLen v)
      case atStart => exact ⟨j, by rw [HNX.out], hj3, HJ3.out, HS3.out⟩
      case round =>
        clear HS3 HJ3 HNX hov1 hov2 hj3
        rename World => w4
        obtain ⟨i, rfl, hi1, hJs, hst⟩ := hrel
        have HS4 := Lib.hid hst
        have HJ4 := Lib.hid hJs
        clear hst hJs
        obtain ⟨s, hs⟩ : ∃ s, (rowsR rows).extract (i * 340) (tkR rows (k + 1)) = s := ⟨_, rfl⟩
        have hss : s.size = tkR rows (k + 1) - i * 340 := by rw [← hs]; exact ext_size htl
        rw [hs]
        have HSS := Lib.hid hs
        have HSZ := Lib.hid hss
        clear hs
        by_cases h340 : 340 ≤ s.size
        · have hx0 : s.extract 0 340 = (rowsR rows).extract (i * 340) (i * 340 + 340) := by rw [← HSS.out, ext_ext (by omega)]; rfl
          have hx1 : s.extract 340 s.size = (rowsR rows).extract ((i + 1) * 340) (tkR rows (k + 1)) := by
            rw [hss, ← HSS.out, ext_ext (by omega)]
            congr 1 <;> omega
          have hsz : (s.extract 0 340).size ≤ 340 := by rw [ext_size (by omega)]; omega
          obtain ⟨fn, tmps, assign, body, hy, hR⟩ := hY _ (s.extract 0 340) w4 hsz HJ4.out (by rw [fullR_len]; omega)
          have HX0 := Lib.hid hx0
          have HX1 := Lib.hid hx1
          have hil : i + 1 ≤ (rowsR rows).size / 340 := by omega
          clear hx0 hx1 hsz
          have h34 : (340 : Int) ≤ (s.size : Int) := by omega
          clear hss
          gi_wp2
          refine ⟨fun _ => by omega, hR.mono ?_⟩
          rintro e W3 (⟨rfl, hJ3, hf3⟩ | ⟨rfl, hJx3⟩)
          · have HS5 := Lib.hid (HS4.out.fr hf3)
            have HJ5 := Lib.hid hJ3
            clear hJ3 hf3
            gi_wp2
            go_roundw
            case rel => exact ⟨i + 1, by rw [HX1.out], by have := HSZ.out; omega, by rw [fullR_succ, ← HX0.out]; exact HJ5.out, HS5.out⟩
            case measure =>
              show (s.extract 340 s.size).size < s.size
              rw [ext_size (Nat.le_refl _)]
              omega
          · have HJ5 := Lib.hid hJx3
            clear hJx3
            gi_wp2
            refine bodyPost_ret (results_none rfl _ _ _) rfl ?_
            exact ⟨⟨_, rfl⟩, .inr ⟨_, ⟨i + 1, by rw [HX0.out, ← fullR_succ, full_take hil]⟩, HJ5.out⟩⟩
        · have h34 : decide ((340 : Int) ≤ (s.size : Int)) = false := decide_eq_false (by omega)
          have hj4 : tkR rows (k + 1) < i * 340 + 340 := by omega
          clear hss
          gi_wp2
          go_roundw
          case rel => exact ⟨k + 1, i, by omega, by go_num, by rw [HSS.out], hi1, hj4, HJ4.out, HS4.out⟩
          case measure => simp [intOf]; omega
    · obtain rfl : k = len := by omega
      have hkk : decide ((k : Int) < (k : Int)) = false := decide_eq_false (by omega)
      have htl : tkR rows k = (rowsR rows).size := tkR_all (by rw [HL.out]; exact Nat.le_refl _)
      obtain ⟨s, hs⟩ : ∃ s, (rowsR rows).extract (j * 340) (tkR rows k) = s := ⟨_, rfl⟩
      have hss : s.size = tkR rows k - j * 340 := by rw [← hs]; exact ext_size (tkR_le rows k)
      rw [hs]
      have hjd : j = (rowsR rows).size / 340 := by omega
      by_cases h0 : s.size = 0
      · have he : s.toList.isEmpty = true := by
          rw [ByteArray.toList_eq]
          rw [← len_list] at h0
          rw [List.eq_nil_of_length_eq_zero h0]; rfl
        have HCH := Lib.hid (show chunksR (rowsR rows) = fullR (rowsR rows) j by unfold chunksR; rw [if_pos (by omega), List.append_nil, hjd])
        clear hs hss h0 htl
        gi_wp2
        go_end0
        exact ⟨⟨_, rfl⟩, .inl ⟨_, HCH.out.symm, HJS.out⟩⟩
      · have he : s.toList.isEmpty = false := by
          cases hh : s.toList.isEmpty with
          | false => rfl
          | true =>
            exfalso
            rw [List.isEmpty_iff, ByteArray.toList_eq] at hh
            rw [← len_list, hh] at h0
            exact h0 rfl
        have HCH := Lib.hid (show chunksR (rowsR rows) = fullR (rowsR rows) j ++ [s] by unfold chunksR; rw [if_neg (by omega), ← hs, htl, ← hjd])
        have hsz : s.size ≤ 340 := by omega
        obtain ⟨fn, tmps, assign, body, hy, hR⟩ := hY _ s wr hsz HJS.out (by rw [fullR_len]; omega)
        clear hs hss h0 htl hsz
        gi_wp2
        refine ⟨fun _ => by omega, hR.mono ?_⟩
        rintro e W3 (⟨rfl, hJ3, hf3⟩ | ⟨rfl, hJx3⟩)
        · have HJ5 := Lib.hid hJ3
          clear hJ3 hf3
          gi_wp2
          go_end0
          exact ⟨⟨_, rfl⟩, .inl ⟨_, HCH.out.symm, HJ5.out⟩⟩
        · have HJ5 := Lib.hid hJx3
          clear hJx3
          gi_wp2
          go_end0
          exact ⟨⟨_, rfl⟩, .inr ⟨_, ⟨(fullR (rowsR rows) j ++ [s]).length, by rw [HCH.out, List.take_length]⟩, HJ5.out⟩⟩
end Go.Proofs.Ytgkenknplepmeaa
