/-
  PLAIN WORDS (no program): the non-empty strings between blanks of a text; strings.FieldsFunc with the predicate 'is a blank' gives just these, for every text, valid UTF-8 or not.
-/
import Derived.Test.YtlkpbpecgdphaaaWr
import Derived.Test.YtlkpbpecgdphaaaLight
import Derived.Tactics
import Derived.Tactics2
import Derived.Defers
import Derived.Laws.Pointers
import Derived.Laws.LoneSync
import Derived.RegionTactic
import Derived.RegionCalls
import Derived.ChangeAlike
import Derived.Test.YtlkpbpecgdphaaaTexts
import Derived.Lib.LazyBuf
import Derived.Laws.MakeOwn
import Derived.Test.YtlkpbpecgdphaaaShelf
import Derived.Lib.FieldsP
namespace Go.Proofs.Ytlkpbpecgdphaaa

section
variable (v0 v1 v2 v3 : ByteArray)
def autoL : Bs → Bs
  | [] => []
  | [b] => [b]
  | b :: c :: r => match (if b = 36 then autoV v0 v1 v2 v3 c else none) with
    | some v => v.data.toList ++ autoL r
    | none => b :: autoL (c :: r)
/-- What is found at the head of a text. -/
def look2 : Bs → Option ByteArray
  | b :: c :: _ => if b = 36 then autoV v0 v1 v2 v3 c else none
  | _ => none
theorem lookR_eq (s : ByteArray) : lookR v0 v1 v2 v3 s = look2 v0 v1 v2 v3 s.data.toList := by
  obtain ⟨⟨l⟩⟩ := s
  unfold lookR look2
  rcases l with _ | ⟨b, _ | ⟨c, r⟩⟩
  · rfl
  · rfl
  · rw [dif_pos (show 2 ≤ (ByteArray.mk ⟨b :: c :: r⟩).size from by show 2 ≤ r.length + 1 + 1; omega)]
    rfl
theorem autoL_none {l : Bs} {b : UInt8} {r : Bs} (hl : l = b :: r) (h : look2 v0 v1 v2 v3 l = none) : autoL v0 v1 v2 v3 l = b :: autoL v0 v1 v2 v3 r := by
  subst hl
  rcases r with _ | ⟨c, r⟩
  · rfl
  · unfold look2 at h
    simp only [autoL, h]
theorem autoL_some {l : Bs} {v : ByteArray} (h : look2 v0 v1 v2 v3 l = some v) : ∃ b c r, l = b :: c :: r ∧ autoL v0 v1 v2 v3 l = v.data.toList ++ autoL v0 v1 v2 v3 r := by
  rcases l with _ | ⟨b, _ | ⟨c, r⟩⟩
  · cases h
  · cases h
  · refine ⟨b, c, r, rfl, ?_⟩
    unfold look2 at h
    simp only [autoL, h]

/-- How far the writing stands: t is written, what lies from l to k is to be written as it stands. -/
structure AInv (s : Bs) (t : Bs) (l k : Nat) : Prop where
  lk : l ≤ k
  ls : l ≤ s.length
  ks : k ≤ s.length + 1
  eq : t ++ (s.drop l).take (k - l) ++ autoL v0 v1 v2 v3 (s.drop k) = autoL v0 v1 v2 v3 s
section
variable {v0 v1 v2 v3} {s t : Bs} {l k : Nat}
theorem AInv.start (s : Bs) : AInv v0 v1 v2 v3 s [] 0 0 := ⟨Nat.le_refl _, Nat.zero_le _, Nat.zero_le _, by simp⟩
theorem AInv.skip (h : AInv v0 v1 v2 v3 s t l k) (hk : k < s.length) (hn : look2 v0 v1 v2 v3 (s.drop k) = none) : AInv v0 v1 v2 v3 s t l (k + 1) := by
  have hd : s.drop k = s[k] :: s.drop (k + 1) := (List.drop_eq_getElem_cons hk)
  have h2 := autoL_none v0 v1 v2 v3 hd hn
  have hlk := h.lk
  refine ⟨by omega, h.ls, by omega, ?_⟩
  have := h.eq
  rw [h2] at this
  rw [← this]
  have e1 : (s.drop l).take (k + 1 - l) = (s.drop l).take (k - l) ++ [s[k]] := by
    rw [show k + 1 - l = (k - l) + 1 by omega, List.take_succ_eq_append_getElem (by simp; omega)]
    congr 2
    simp [show l + (k - l) = k by omega]
  rw [e1]
  simp
theorem AInv.last (h : AInv v0 v1 v2 v3 s t l k) (hk : k = s.length) : AInv v0 v1 v2 v3 s t l (k + 1) := by
  have hlk := h.lk
  refine ⟨by omega, h.ls, by omega, ?_⟩
  have := h.eq
  rw [← this]
  rw [List.take_of_length_le (by simp; omega), List.take_of_length_le (by simp; omega), List.drop_of_length_le (show s.length ≤ k + 1 by omega), List.drop_of_length_le (show s.length ≤ k by omega)]
theorem AInv.hit (h : AInv v0 v1 v2 v3 s t l k) {v : ByteArray} (hn : look2 v0 v1 v2 v3 (s.drop k) = some v) : AInv v0 v1 v2 v3 s (t ++ (s.drop l).take (k - l) ++ v.data.toList) (k + 2) (k + 2) ∧ k + 2 ≤ s.length := by
  obtain ⟨b, c, r, e1, e2⟩ := autoL_some v0 v1 v2 v3 hn
  have hl : (s.drop k).length = r.length + 2 := by rw [e1]; rfl
  rw [List.length_drop] at hl
  have hr : s.drop (k + 2) = r := by rw [← List.drop_drop, e1]; rfl
  refine ⟨⟨Nat.le_refl _, by omega, by omega, ?_⟩, by omega⟩
  have := h.eq
  rw [e2] at this
  rw [← this, hr]
  simp
theorem AInv.fin (h : AInv v0 v1 v2 v3 s t l (s.length + 1)) : t ++ s.drop l = autoL v0 v1 v2 v3 s := by
  have := h.eq
  have hlk := h.ls
  rw [List.take_of_length_le (by simp; omega), List.drop_of_length_le (show s.length ≤ s.length + 1 by omega)] at this
  simpa [autoL] using this
theorem AInv.len (h : AInv v0 v1 v2 v3 s t l k) : t.length ≤ (autoL v0 v1 v2 v3 s).length := by rw [← h.eq]; simp
theorem AInv.len2 (h : AInv v0 v1 v2 v3 s t l k) (hk : k ≤ s.length) : t.length + (k - l) ≤ (autoL v0 v1 v2 v3 s).length := by rw [← h.eq]; have := h.lk; simp; omega
end
end
end Go.Proofs.Ytlkpbpecgdphaaa
namespace Go.Proofs.Ytlkpbpecgdphaaa
open Go.RowKit

theorem _root_.Go.RowKit.Below.trans_drewN {B : Nat} {w w' : World} (h : Below B w w') (n : Nat) : Below B w (w'.drewN n) := ⟨h.os, h.tape, h.output, h.size, h.block⟩

end Go.Proofs.Ytlkpbpecgdphaaa
namespace Go.Proofs.Ytlkpbpecgdphaaa





/-- What a once's own cells hold: not done, the lock in state s. -/
structure OnceAt (w : World) (b : Nat) (s : Int) : Prop where
  done : w.cell? ⟨b, 0, none⟩ = some (.int .u32 0)
  lock : w.cell? ⟨b, 1, none⟩ = some (.int .i32 s)
  fdone : w.frozen? ⟨b, 0, none⟩ = false
  flock : w.frozen? ⟨b, 1, none⟩ = false
theorem OnceAt.locked {w : World} {b : Nat} (h : OnceAt w b 0) : OnceAt (w.setCell ⟨b, 1, none⟩ (.int .i32 1)) b 1 :=
  ⟨(World.cell?_setCell_other _ ⟨b, 1, none⟩ ⟨b, 0, none⟩ _ (by simp)).trans h.done, World.cell?_setCell_same w _ _ h.lock, by simp [h.fdone], by simp [h.flock]⟩


end Go.Proofs.Ytlkpbpecgdphaaa
namespace Go.Proofs.Ytlkpbpecgdphaaa
open Go.RowKit

set_option maxHeartbeats 1000000 in
set_option maxRecDepth 100000 in
theorem cloneF_any (A : Option Addr) (n c : Nat) (l : List F) (w : World) (h : RdF w w.heap.size A n c l) (hn : n ≤ 900000) :
    Calls Try.prog 28 #[.slice A n c] w fun e w' => ∃ v, e = .returned v ∧ w'.ownsRow w.heap.size 57 2 v n (fcells l) ∧ Below w.heap.size w w' := by
  obtain ⟨i, hi, hz, hsz, hby⟩ := file_parts
  have HI := Lib.hid hi
  have HZ := Lib.hid hz
  have HS := Lib.hid hsz
  have HB := Lib.hid hby
  clear hi hz hsz hby
  have hnil := fun (a : Option Addr) (k c : Nat) (W : World) => Lib.run_eql_slice_nil (P := Try.prog) W 22 57 a k c 0 0 Try.underlying22
  rcases A with _ | ad
  · have h0 : n = 0 := by
      rcases Nat.eq_zero_or_pos n with e | e
      · exact e
      · obtain ⟨_, _, e, _⟩ := h.2.2.2 e; cases e
    subst h0
    obtain rfl : l = [] := List.eq_nil_of_length_eq_zero h.1
    clear h
    go_enter Try.func28, Try.ntmps28
    go_wp2
    go_ret
    exact ⟨_, rfl, World.ownsRow_nil _ _ _ _, Below.refl _ _⟩
  · have hb1 : Below w.heap.size w (w.alloc (.cells #[] 57)) := (Below.refl _ _).alloc (Nat.le_refl _) _
    have hown : (w.alloc (.cells #[] 57)).ownsRow w.heap.size 57 2 (.slice (some ⟨w.heap.size, 0, none⟩) 0 0) 0 (fcells []) := World.ownsRow_made w #[] 0 (Nat.le_refl _) (Nat.zero_le _) (by simp)
    have HR := Lib.hid (h.below hb1)
    have HO := Lib.hid hown
    clear h hown
    go_enter Try.func28, Try.ntmps28
    go_wp2_with (at_builtin; refine wpList_append_files _ rfl (.tmp 5) (.tmp 6) _ rfl w.heap.size 57 i _ 32 Try.underlying22 HI.out HZ.out HS.out HB.out rfl _ _ _ rfl HO.out _ _ n c l rfl HR.out ?_ ?_ ?_ ?_)
    · unfold maxLen; omega
    · omega
    · simp
    intro v2 w2 hown2 hg2
    have hb2 : Below w.heap.size w w2 := hb1.grown hg2 (by simp) (fun g' hg' => (HO.out.lt g' hg').1)
    have HV := Lib.hid hown2
    clear hown2 HO HR
    go_wp2
    go_ret
    exact ⟨_, rfl, by have := HV.out; simpa using this, hb2⟩

section
variable {P : Program} (w : World)
/-- append(v, s...), v a row of the call's own, s a slice that reads as texts (nil, empty or not). -/
theorem run_append_texts (base : Nat) (t ty e : TypeId) (i : TypeInfo) (z : Value) (bytes : Nat) (ht : P.underlying t = some (.slice e)) (hi : P.info? e = some i) (hz : i.zero = some z)
    (hsize : i.size = 1) (hby : i.bytes = bytes) (hzs : z.cells.size = 1)
    (v : Value) (n : Nat) (l : List ByteArray) (hown : w.ownsRow base e 1 v n (tcells l))
    (B : Nat) (A : Option Addr) (m c : Nat) (r : List ByteArray) (hr : RdS w B A m c r)
    (h63 : n + m ≤ maxLen) (hbytes : (n + m) * bytes ≤ 140737488355328) (hbase : base ≤ w.heap.size) :
    ∃ v' w', (Builtin.append_ #[t, t] ty #[v, .slice A m c]).run P w = .ok v' w' ∧ w'.ownsRow base e 1 v' (n + m) (tcells (l ++ r)) ∧ w.grownBy w' v.ownBlock := by
  rcases A with _ | ad
  · have hm : m = 0 := by
      rcases Nat.eq_zero_or_pos m with h0 | h0
      · exact h0
      · obtain ⟨b, off, h, _⟩ := hr.2.2.2 h0
        cases h
    subst hm
    have hn : r = [] := List.eq_nil_of_length_eq_zero hr.1
    subst hn
    refine ⟨v, w, ?_, by simpa using hown, World.grownBy.refl w _⟩
    rcases hown.2 with ⟨rfl, rfl⟩ | ⟨g, cap, cur, rfl, _, _, hnc, _⟩
    · simp [Builtin.append_, run_underlying ht, sizeOf, typeInfo, hi, Builtin.lenOf, Builtin.firstCells]
    · simp [Builtin.append_, run_underlying ht, sizeOf, typeInfo, hi, Builtin.lenOf, Builtin.firstCells, hnc, storeCells]
  · have hcells : ∀ j u, (tcells r)[j]? = some u → w.cell? (ad.add j) = some u := by
      intro j u hu
      rcases Nat.eq_zero_or_pos m with h0 | h0
      · have hn : r = [] := List.eq_nil_of_length_eq_zero (by rw [hr.1, h0])
        subst hn
        simp [tcells] at hu
      · obtain ⟨b, off, h, _, hc⟩ := hr.2.2.2 h0
        injection h with h
        subst h
        rw [Go.WideShapes.add_plain]
        rw [tcells, List.getElem?_map, Option.map_eq_some_iff] at hu
        obtain ⟨s, hs, rfl⟩ := hu
        exact hc j s hs
    obtain ⟨v', w', hrun, h2, h3, _, _⟩ := run_append_own_at (P := P) w base t ty e i z 1 bytes ht hi hz hsize hby hzs (by omega) v n (tcells l) hown ad m c (tcells r) (by rw [tcells, List.length_map, hr.1]; omega) hcells (tcells_one r) h63 hbytes hbase
    exact ⟨v', w', hrun, by rw [tcells, List.map_append]; exact h2, h3⟩

theorem wp_append_texts {o : Oper} {a : Act} {K : Act → World → Prop} {Q : Exit → Act → World → Prop} (s x : Operand) (t : TypeId)
    (ho : o.op = .call { callee := .builtin .append, args := #[s, x], argTypes := #[t, t] })
    (base : Nat) (e : TypeId) (i : TypeInfo) (z : Value) (bytes : Nat) (ht : P.underlying t = some (.slice e)) (hi : P.info? e = some i) (hz : i.zero = some z)
    (hsize : i.size = 1) (hby : i.bytes = bytes) (hzs : z.cells.size = 1)
    (v : Value) (n : Nat) (l : List ByteArray) (hs : a.eval s = v) (hown : w.ownsRow base e 1 v n (tcells l))
    (B : Nat) (A : Option Addr) (m c : Nat) (r : List ByteArray) (hx : a.eval x = .slice A m c) (hr : RdS w B A m c r)
    (h63 : n + m ≤ maxLen) (hbytes : (n + m) * bytes ≤ 140737488355328) (hbase : base ≤ w.heap.size)
    (h : ∀ v' w', w'.ownsRow base e 1 v' (n + m) (tcells (l ++ r)) → w.grownBy w' v.ownBlock → K (a.put o.dst v') w') : o.wp P a w K Q := by
  obtain ⟨v', w', hrun, h2, h3⟩ := run_append_texts (P := P) w base t o.type e i z bytes ht hi hz hsize hby hzs v n l hown B A m c r hr h63 hbytes hbase
  unfold Oper.wp execOp
  simp only [ho, resolve, invoke, builtin, Sem.run_bind, Sem.run_pure, Result.andThen_ok, List.map_toArray, List.map_cons, List.map_nil, hs, hx, hrun]
  exact h v' w' h2 h3

theorem wpList_append_texts {ops : Array Oper} {rest : List Oper} {o : Oper} {a : Act} {Q : Exit → Act → World → Prop} (hgd : o.guard = none) (s x : Operand) (t : TypeId)
    (ho : o.op = .call { callee := .builtin .append, args := #[s, x], argTypes := #[t, t] })
    (base : Nat) (e : TypeId) (i : TypeInfo) (z : Value) (bytes : Nat) (ht : P.underlying t = some (.slice e)) (hi : P.info? e = some i) (hz : i.zero = some z)
    (hsize : i.size = 1) (hby : i.bytes = bytes) (hzs : z.cells.size = 1)
    (v : Value) (n : Nat) (l : List ByteArray) (hs : a.eval s = v) (hown : w.ownsRow base e 1 v n (tcells l))
    (B : Nat) (A : Option Addr) (m c : Nat) (r : List ByteArray) (hx : a.eval x = .slice A m c) (hr : RdS w B A m c r)
    (h63 : n + m ≤ maxLen) (hbytes : (n + m) * bytes ≤ 140737488355328) (hbase : base ≤ w.heap.size)
    (h : ∀ v' w', w'.ownsRow base e 1 v' (n + m) (tcells (l ++ r)) → w.grownBy w' v.ownBlock → wpList P ops Q rest (a.put o.dst v') w') : wpList P ops Q (o :: rest) a w :=
  wpList_plain hgd fun _ hK => wp_append_texts w s x t ho base e i z bytes ht hi hz hsize hby hzs v n l hs hown B A m c r hx hr h63 hbytes hbase fun v' w' h2 h3 => hK _ _ (h v' w' h2 h3)
end

theorem text_info : (Try.prog.info? 9).map (fun i => (i.zero, i.size, i.bytes)) = some (some (.string ByteArray.empty), 1, 16) := by kernel_rfl
theorem text_parts : ∃ i, Try.prog.info? 9 = some i ∧ i.zero = some (.string ByteArray.empty) ∧ i.size = 1 ∧ i.bytes = 16 := by
  have h := text_info
  cases e : Try.prog.info? 9 with
  | none => rw [e] at h; cases h
  | some i =>
    rw [e] at h
    simp only [Option.map_some, Option.some.injEq, Prod.mk.injEq] at h
    exact ⟨i, rfl, h.1, h.2.1, h.2.2⟩

set_option maxHeartbeats 1000000 in
set_option maxRecDepth 100000 in
theorem cloneS_any (A : Option Addr) (n c : Nat) (l : List ByteArray) (w : World) (h : RdS w w.heap.size A n c l) (hn : n ≤ 900000) :
    Calls Try.prog 27 #[.slice A n c] w fun e w' => ∃ v, e = .returned v ∧ w'.ownsRow w.heap.size 9 1 v n (tcells l) ∧ Below w.heap.size w w' := by
  obtain ⟨i, hi, hz, hsz, hby⟩ := text_parts
  have HI := Lib.hid hi
  have HZ := Lib.hid hz
  have HS := Lib.hid hsz
  have HB := Lib.hid hby
  clear hi hz hsz hby
  have hnil := fun (a : Option Addr) (k c : Nat) (W : World) => Lib.run_eql_slice_nil (P := Try.prog) W 27 9 a k c 0 0 Try.underlying27
  rcases A with _ | ad
  · have h0 : n = 0 := by
      rcases Nat.eq_zero_or_pos n with e | e
      · exact e
      · obtain ⟨_, _, e, _⟩ := h.2.2.2 e; cases e
    subst h0
    obtain rfl : l = [] := List.eq_nil_of_length_eq_zero h.1
    clear h
    go_enter Try.func27, Try.ntmps27
    go_wp2
    go_ret
    exact ⟨_, rfl, World.ownsRow_nil _ _ _ _, Below.refl _ _⟩
  · have hb1 : Below w.heap.size w (w.alloc (.cells #[] 9)) := (Below.refl _ _).alloc (Nat.le_refl _) _
    have hown : (w.alloc (.cells #[] 9)).ownsRow w.heap.size 9 1 (.slice (some ⟨w.heap.size, 0, none⟩) 0 0) 0 (tcells []) := World.ownsRow_made w #[] 0 (Nat.le_refl _) (Nat.zero_le _) (by simp)
    have HR := Lib.hid (h.below hb1)
    have HO := Lib.hid hown
    clear h hown
    go_enter Try.func27, Try.ntmps27
    go_wp2_with (at_builtin; refine wpList_append_texts _ rfl (.tmp 5) (.tmp 6) _ rfl w.heap.size 9 i _ 16 Try.underlying27 HI.out HZ.out HS.out HB.out rfl _ _ _ rfl HO.out _ _ n c l rfl HR.out ?_ ?_ ?_ ?_)
    · unfold maxLen; omega
    · omega
    · simp
    intro v2 w2 hown2 hg2
    have hb2 : Below w.heap.size w w2 := hb1.grown hg2 (by simp) (fun g' hg' => (HO.out.lt g' hg').1)
    have HV := Lib.hid hown2
    clear hown2 HO HR
    go_wp2
    go_ret
    exact ⟨_, rfl, by have := HV.out; simpa using this, hb2⟩

end Go.Proofs.Ytlkpbpecgdphaaa
namespace Go.Proofs.Ytlkpbpecgdphaaa
open Go.RowKit

theorem ofCells (t : ByteArray) (j : Nat) (hj : j < t.size) : (Lib.strCells t)[j]? = some (.int .u8 ((t.data.toList[j]'(by simpa using hj)).toNat : Int)) := by
  simp [Lib.strCells, hj]


abbrev repC (d s : Int) (r o : Value) : Array Value := #[.int .u32 d, .int .i32 s, .int .u32 0, r, o]





end Go.Proofs.Ytlkpbpecgdphaaa
namespace Go.Proofs.Ytlkpbpecgdphaaa
open Go.RowKit

def headT (l : List ByteArray) : ByteArray := l.headD ⟨#[]⟩
def joinB (l : List ByteArray) : Bs := Lib.join (l.map (·.data.toList)) [32]
/-- What expand.Auto gives. -/
def autoT (s : ByteArray) (lt ln : List ByteArray) (stem : ByteArray) : Bs := autoL (headT lt) (headT ln) (ba (joinB ln)) stem s.data.toList


end Go.Proofs.Ytlkpbpecgdphaaa
namespace Go.Proofs.Ytlkpbpecgdphaaa
open Go.RowKit

/-- What Stem comes to. -/
def stemR (p n : ByteArray) : ByteArray × Bool :=
  if (cutB p [37]).2.2 = true ∧ Lib.hasPrefix n.data.toList (cutB p [37]).1 = true ∧ Lib.hasSuffix n.data.toList (cutB p [37]).2.1 = true ∧ (cutB p [37]).1.length + (cutB p [37]).2.1.length < n.size then
    (n.extract (cutB p [37]).1.length (n.size - (cutB p [37]).2.1.length), true) else (⟨#[]⟩, false)
theorem suffix_len {s p : Bs} (h : Lib.hasSuffix s p = true) : p.length ≤ s.length := by
  rw [Lib.hasSuffix, List.isSuffixOf_iff_suffix] at h
  exact h.length_le
theorem prefix_len {s p : Bs} (h : Lib.hasPrefix s p = true) : p.length ≤ s.length := by
  rw [Lib.hasPrefix, List.isPrefixOf_iff_prefix] at h
  exact h.length_le

end Go.Proofs.Ytlkpbpecgdphaaa
namespace Go.Proofs.Ytlkpbpecgdphaaa
open Go Go.Lib

/-- The non-empty strings between blanks, behind a word that has begun. -/
def fldGo : Bs → Bs → List Bs
  | cur, [] => if cur = [] then [] else [cur]
  | cur, b :: l => if b = 32 then (if cur = [] then fldGo [] l else cur :: fldGo [] l) else fldGo (cur ++ [b]) l
def fieldsB (l : Bs) : List Bs := fldGo [] l
theorem fldGo_skip : ∀ (p cur l : Bs), (∀ b ∈ p, b ≠ 32) → fldGo cur (p ++ l) = fldGo (cur ++ p) l
  | [], cur, l, _ => by simp
  | b :: p, cur, l, h => by
    rw [List.cons_append, fldGo, if_neg (h b (by simp)), fldGo_skip p (cur ++ [b]) l (fun x hx => h x (by simp [hx]))]
    simp
def isBlank (r : Nat) : Bool := decide (r = 32)
theorem get_bang (s : ByteArray) (i : Nat) (h : i < s.size) : s.get! i = s[i] := by
  cases s
  simp only [ByteArray.get!, ByteArray.size] at h ⊢
  exact getElem!_pos _ i h
/-- A rune is a blank just where its first byte is one; no other byte of a rune is. -/
theorem dec_blank (s : ByteArray) (pos : Nat) (h : (s.get! pos).toNat = 32) : Utf8.decode s pos = (32, 1) := by
  unfold Utf8.decode
  simp [h]
theorem dec_other (s : ByteArray) (pos : Nat) (hp : pos < s.size) (h : (s.get! pos).toNat ≠ 32) :
    (Utf8.decode s pos).1 ≠ 32 ∧ 1 ≤ (Utf8.decode s pos).2 ∧ pos + (Utf8.decode s pos).2 ≤ s.size ∧ ∀ k, k < (Utf8.decode s pos).2 → (s.get! (pos + k)).toNat ≠ 32 := by
  have h0 : ∀ k, k < 1 → (s.get! (pos + k)).toNat ≠ 32 := fun k hk => by
    obtain rfl : k = 0 := by omega
    exact h
  unfold Utf8.decode
  simp only [Nat.add_zero, Utf8.runeError]
  split
  · exact ⟨h, by simp, by simp only; omega, by simpa using h0⟩
  · split
    · rename_i hc
      simp only [Bool.and_eq_true, beq_iff_eq, decide_eq_true_eq] at hc
      split
      · rename_i hg
        refine ⟨by simp only; omega, by simp, by simp only; omega, fun k hk => ?_⟩
        simp only at hk
        match k with
        | 0 => exact h
        | 1 => intro e; have := hc.2.2; omega
        | k + 2 => omega
      · exact ⟨by simp, by simp, by simp only; omega, by simpa using h0⟩
    · split
      · rename_i hc
        simp only [Bool.and_eq_true, beq_iff_eq, decide_eq_true_eq] at hc
        split
        · rename_i hg
          simp only [Bool.and_eq_true, decide_eq_true_eq, ge_iff_le] at hg
          refine ⟨by simp only; omega, by simp, by simp only; omega, fun k hk => ?_⟩
          simp only at hk
          match k with
          | 0 => exact h
          | 1 => intro e; have := hc.1.2.2; omega
          | 2 => intro e; have := hc.2.2; omega
          | k + 3 => omega
        · exact ⟨by simp, by simp, by simp only; omega, by simpa using h0⟩
      · split
        · rename_i hc
          simp only [Bool.and_eq_true, beq_iff_eq, decide_eq_true_eq] at hc
          split
          · rename_i hg
            simp only [Bool.and_eq_true, decide_eq_true_eq, ge_iff_le] at hg
            refine ⟨by simp only; omega, by simp, by simp only; omega, fun k hk => ?_⟩
            simp only at hk
            match k with
            | 0 => exact h
            | 1 => intro e; have := hc.1.1.2.2; omega
            | 2 => intro e; have := hc.1.2.2; omega
            | 3 => intro e; have := hc.2.2; omega
            | k + 4 => omega
          · exact ⟨by simp, by simp, by simp only; omega, by simpa using h0⟩
        · exact ⟨by simp, by simp, by simp only; omega, by simpa using h0⟩
theorem byte_toNat {b : UInt8} (h : b.toNat ≠ 32) : b ≠ 32 := by rintro rfl; exact h rfl
theorem drop_cons_get (s : ByteArray) (pos : Nat) (h : pos < s.size) : s.data.toList.drop pos = s.get! pos :: s.data.toList.drop (pos + 1) := by
  rw [List.drop_eq_getElem_cons (by simpa using h), get_bang s pos h]
  rfl
theorem spans_fld (s : ByteArray) : ∀ (f pos : Nat) (st : Option Nat) (acc : List (Nat × Nat)), s.size ≤ pos + f → pos ≤ s.size → (∀ a, st = some a → a < pos) →
    acc.map (fun p => pieceU s.data.toList p.1 p.2) ++ fldGo (openPiece s.data.toList st pos) (s.data.toList.drop pos) = (closeSpans s (spansFromP isBlank s f pos st acc)).map (fun p => pieceU s.data.toList p.1 p.2)
  | 0, pos, st, acc, h, hp, hst => by
    obtain rfl : pos = s.size := by omega
    have hd : s.data.toList.drop s.size = [] := List.drop_eq_nil_of_le (by rw [← size_eq]; exact Nat.le_refl _)
    rw [hd, fldGo]
    cases st with
    | none => simp [spansFromP, closeSpans, openPiece]
    | some a =>
      have := pieceU_ne s.data.toList a s.size (hst a rfl) (by rw [← size_eq]; exact Nat.le_refl _)
      simp [spansFromP, closeSpans, openPiece, this]
  | f + 1, pos, st, acc, h, hp, hst => by
    by_cases hlt : pos < s.size
    · by_cases hb : (s.get! pos).toNat = 32
      · have hdec := dec_blank s pos hb
        have hbb : s.get! pos = 32 := UInt8.toNat_inj.1 hb
        rw [drop_cons_get s pos hlt, hbb, fldGo, if_pos rfl]
        simp only [spansFromP, if_pos hlt, hdec]
        simp only [isBlank, decide_true, if_true]
        cases st with
        | none =>
          have ih := spans_fld s f (pos + 1) none acc (by omega) (by omega) (fun a h => by cases h)
          simpa [openPiece] using ih
        | some a =>
          have hpn := pieceU_ne s.data.toList a pos (hst a rfl) (by rw [← size_eq]; omega)
          have ih := spans_fld s f (pos + 1) none (acc ++ [(a, pos)]) (by omega) (by omega) (fun a h => by cases h)
          simpa [openPiece, hpn] using ih
      · obtain ⟨h1, h2, h3, h4⟩ := dec_other s pos hlt hb
        simp only [spansFromP, if_pos hlt]
        have hib : isBlank (Utf8.decode s pos).1 = false := by unfold isBlank; exact decide_eq_false h1
        rw [hib]
        simp only [Bool.false_eq_true, if_false]
        generalize (Utf8.decode s pos).2 = k at h2 h3 h4 ⊢
        have hsplit : s.data.toList.drop pos = (s.data.toList.drop pos).take k ++ s.data.toList.drop (pos + k) := by
          rw [← List.drop_drop, List.take_append_drop]
        have hno : ∀ b ∈ (s.data.toList.drop pos).take k, b ≠ 32 := by
          intro b hb'
          obtain ⟨j, hj, e⟩ := List.mem_iff_getElem.1 hb'
          rw [List.length_take, List.length_drop] at hj
          have := h4 j (by omega)
          rw [get_bang s (pos + j) (by omega)] at this
          rw [← e, List.getElem_take, List.getElem_drop]
          exact byte_toNat this
        rw [hsplit, fldGo_skip _ _ _ hno]
        cases st with
        | none =>
          have ih := spans_fld s f (pos + k) (some pos) acc (by omega) h3 (fun a h => by cases h; omega)
          have e : ([] : Bs) ++ (s.data.toList.drop pos).take k = pieceU s.data.toList pos (pos + k) := by
            unfold pieceU
            rw [List.nil_append, Nat.add_sub_cancel_left]
          simp only [openPiece] at ih ⊢
          rw [e]
          exact ih
        | some a =>
          have ih := spans_fld s f (pos + k) (some a) acc (by omega) h3 (fun b h => by cases h; have := hst a rfl; omega)
          simp only [openPiece] at ih ⊢
          rw [pieceU_grow _ _ _ _ (Nat.le_of_lt (hst a rfl))]
          exact ih
    · obtain rfl : pos = s.size := by omega
      have hd : s.data.toList.drop s.size = [] := List.drop_eq_nil_of_le (by rw [← size_eq]; exact Nat.le_refl _)
      rw [hd, fldGo, spansFromP_end isBlank s _ _ _ _ hlt]
      cases st with
      | none => simp [closeSpans, openPiece]
      | some a =>
        have := pieceU_ne s.data.toList a s.size (hst a rfl) (by rw [← size_eq]; exact Nat.le_refl _)
        simp [closeSpans, openPiece, this]
/-- What strings.FieldsFunc gives. -/
theorem goFields_blank (s : ByteArray) : goFieldsP isBlank s = (fieldsB s.data.toList).map ba := by
  have h := spans_fld s s.size 0 none [] (by omega) (by omega) (fun a h => by cases h)
  simp only [List.map_nil, List.nil_append, openPiece, List.drop_zero] at h
  unfold goFieldsP fieldsB spansOfP
  rw [h, List.map_map]
  apply List.map_congr_left
  intro x _
  show s.extract x.1 x.2 = ba (pieceU s.data.toList x.1 x.2)
  rw [← ba_of (s.extract x.1 x.2), Lib.extract_data]
  rfl
theorem fldGo_len : ∀ (cur l : Bs), (fldGo cur l).length ≤ l.length + 1
  | cur, [] => by unfold fldGo; split <;> simp
  | cur, b :: l => by
    unfold fldGo
    split
    · split
      · have := fldGo_len [] l; simp; omega
      · have := fldGo_len [] l; simp; omega
    · have := fldGo_len (cur ++ [b]) l; simp; omega
theorem fldGo_size : ∀ (cur l : Bs) (x : Bs), x ∈ fldGo cur l → x.length ≤ cur.length + l.length
  | cur, [], x, h => by
    unfold fldGo at h
    split at h
    · simp at h
    · simp at h; subst h; simp
  | cur, b :: l, x, h => by
    unfold fldGo at h
    split at h
    · split at h
      · have := fldGo_size [] l x h; simp at this ⊢; omega
      · rcases List.mem_cons.1 h with rfl | h
        · simp
        · have := fldGo_size [] l x h; simp at this ⊢; omega
    · have := fldGo_size (cur ++ [b]) l x h; simp at this ⊢; omega
end Go.Proofs.Ytlkpbpecgdphaaa
