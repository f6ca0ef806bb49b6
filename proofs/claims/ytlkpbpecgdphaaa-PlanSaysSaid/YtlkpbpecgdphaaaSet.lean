/-
  WORDS FOR MEMORY: a set of texts kept as a map of bools; a description as it is read. WALK: makefile.agrees.
-/
import Derived.Test.YtlkpbpecgdphaaaSpn
import Derived.Test.YtlkpbpecgdphaaaFields
import Derived.Test.YtlkpbpecgdphaaaWr
import Derived.Lib.AppendZeros
import Derived.Test.YtlkpbpecgdphaaaAddCmd
import Derived.Deep.RegionHeld3
import Derived.Deep.AppendLies
import Derived.Maps.OwnSet
namespace Go.Proofs.Ytlkpbpecgdphaaa
open Go.RowKit

theorem ext_data (s : ByteArray) (a b : Nat) : (s.extract a b).data.toList = (s.data.toList.take b).drop a := by
  rw [Lib.extract_data]
  simp [List.drop_take]
theorem take_byte (s : ByteArray) (k : Nat) (h : k < s.size) : s.data.toList.take (k + 1) = s.data.toList.take k ++ [s[k]] := by
  rw [List.take_succ_eq_append_getElem (by simpa using h)]; rfl
def SpAt (s : ByteArray) (k fr : Nat) (out : List ByteArray) : Prop := fr ≤ k ∧ spl (s.data.toList.take k) = out.map (·.data.toList) ++ [(s.data.toList.take k).drop fr]
theorem SpAt.start (s : ByteArray) : SpAt s 0 0 [] := ⟨Nat.le_refl _, by simp [spl]⟩
theorem SpAt.blank {s : ByteArray} {k fr : Nat} {out : List ByteArray} (h : SpAt s k fr out) (hk : k < s.size) (hb : s[k] = 32) : SpAt s (k + 1) (k + 1) (out ++ [s.extract fr k]) := by
  refine ⟨Nat.le_refl _, ?_⟩
  rw [take_byte s k hk, spl_snoc _ _ _ _ h.2, if_pos hb, List.map_append]
  have e : (s.data.toList.take k ++ [s[k]]).drop (k + 1) = [] := List.drop_eq_nil_of_le (by simp; omega)
  rw [e]
  simp [List.drop_take]
theorem SpAt.other {s : ByteArray} {k fr : Nat} {out : List ByteArray} (h : SpAt s k fr out) (hk : k < s.size) (hb : s[k] ≠ 32) : SpAt s (k + 1) fr out := by
  refine ⟨by have := h.1; omega, ?_⟩
  rw [take_byte s k hk, spl_snoc _ _ _ _ h.2, if_neg hb]
  have h1 := h.1
  have hl : k ≤ s.data.toList.length := by simpa using Nat.le_of_lt hk
  rw [List.drop_append_of_le_length (by rw [List.length_take]; omega)]
theorem SpAt.last {s : ByteArray} {fr : Nat} {out : List ByteArray} (h : SpAt s s.size fr out) : out ++ [s.extract fr s.size] = words s := by
  apply of_data
  have hs : s.data.toList.take s.size = s.data.toList := List.take_of_length_le (by simp)
  rw [words_data, ← hs, h.2, List.map_append]
  simp [List.drop_take]
theorem spl_len (l : List UInt8) : (spl l).length ≤ l.length + 1 := by
  induction l with
  | nil => simp [spl]
  | cons b l ih =>
    unfold spl
    split
    · simp; omega
    · split
      · simp
      · rename_i e; rw [e] at ih; simp at ih ⊢; omega
theorem SpAt.len {s : ByteArray} {k fr : Nat} {out : List ByteArray} (h : SpAt s k fr out) : out.length ≤ k := by
  have h1 := spl_len (s.data.toList.take k)
  rw [h.2] at h1
  simp at h1
  have : (s.data.toList.take k).length ≤ k := List.length_take_le _ _
  simp at this
  omega
theorem byte_ne {b : UInt8} (h : ((b.toNat : Int) == 32) = false) : b ≠ 32 := by rintro rfl; simp at h
theorem byte_eq {b : UInt8} (h : ((b.toNat : Int) == 32) = true) : b = 32 := by
  have h' : (b.toNat : Int) = 32 := by simpa using h
  exact UInt8.toNat_inj.1 (by have : (32 : UInt8).toNat = 32 := rfl; omega)
theorem tcells_len (l : List ByteArray) : (tcells l).length = l.length := by simp [tcells]
theorem owns_lenT {w : World} {base : Nat} {e : TypeId} {v : Value} {n : Nat} {l : List ByteArray} (h : w.ownsRow base e 1 v n (tcells l)) : w.ownsRow base e 1 v l.length (tcells l) := by
  have : l.length = n := by have := h.1; rw [tcells_len] at this; omega
  rw [this]; exact h
theorem RdS_one' (w : World) (x : ByteArray) (e : TypeId) : RdS (w.alloc (.cells #[.string x] e)) (w.heap.size + 1) (some ⟨w.heap.size, 0, none⟩) 1 1 [x] := by
  refine ⟨rfl, Nat.le_refl _, by unfold maxLen; omega, fun _ => ⟨w.heap.size, 0, rfl, by omega, fun j u hu => ?_⟩⟩
  rw [World.cell?_alloc_at _ _ _ _ rfl]
  match j with
  | 0 => simpa using hu
  | j + 1 => simp at hu

structure SpRel (w : World) (s : ByteArray) (v f i : Value) (wr : World) : Prop where
  ex : ∃ (k fr : Nat) (out : List ByteArray), k ≤ s.size ∧ i = .int .i64 k ∧ f = .int .i64 fr ∧ SpAt s k fr out ∧ wr.ownsRow w.heap.size 9 1 v out.length (tcells out) ∧ Below w.heap.size w wr

set_option maxHeartbeats 2000000 in
set_option maxRecDepth 100000 in
theorem refSplit_any (s : ByteArray) (w : World) (hs : s.size ≤ 100000) :
    Calls Try.prog 18 #[.string s, .int .u8 32] w fun e w' => ∃ v, e = .returned v ∧ w'.ownsRow w.heap.size 9 1 v (words s).length (tcells (words s)) ∧ Below w.heap.size w w' := by
  obtain ⟨i, hi, hz, hsz, hby⟩ := text_parts
  have HI := Lib.hid hi
  have HZ := Lib.hid hz
  have HS := Lib.hid hsz
  have HB := Lib.hid hby
  clear hi hz hsz hby
  go_enter Try.func18, Try.ntmps18
  go_wp2
  go_loopw [5, 6, 7] (fun v f j wr => SpRel w s v f j wr) (fun _ _ j _ => s.size - (intOf j).toNat)
  case atStart => exact ⟨0, 0, [], Nat.zero_le _, rfl, rfl, SpAt.start s, World.ownsRow_nil _ _ _ _, Below.refl _ _⟩
  case round =>
    obtain ⟨k, fr, out, hk, rfl, rfl, hat, hown, hb⟩ := hrel.ex
    clear hrel
    have hfk := hat.1
    have hol := hat.len
    have HA := Lib.hid hat
    have HO := Lib.hid hown
    clear hat hown
    by_cases hlt : k < s.size
    · have hkz : (k : Int) < (s.size : Int) := by omega
      cases hq : ((s[k].toNat : Int) == 32) with
      | false =>
        have HN := Lib.hid (HA.out.other hlt (byte_ne hq))
        go_wp2
        go_roundw
        case rel => exact ⟨k + 1, fr, out, by omega, by go_num, rfl, HN.out, HO.out, hb⟩
        case measure => simp [intOf]; omega
      | true =>
        have HN := Lib.hid (HA.out.blank hlt (byte_eq hq))
        have HO1 := Lib.hid (HO.out.alloc (.cells #[.string (s.extract fr k)] 9))
        have H1 := Lib.hid (RdS_one' wr (s.extract fr k) 9)
        have hb1 : Below w.heap.size w (wr.alloc (.cells #[.string (s.extract fr k)] 9)) := hb.alloc hb.size _
        have hs1 := hb1.size
        go_wp2_with (at_builtin; refine wpList_append_texts _ rfl (.tmp 19) (.tmp 24) _ rfl w.heap.size 9 i _ 16 Try.underlying27 HI.out HZ.out HS.out HB.out rfl _ _ _ rfl HO1.out _ _ 1 1 [s.extract fr k] rfl H1.out ?_ ?_ ?_ ?_)
        · unfold maxLen; omega
        · omega
        · simpa using hs1
        intro v2 w2 hown2 hg2
        have hb2 : Below w.heap.size w w2 := hb1.grown hg2 hs1 (fun g' hg' => (HO.out.lt g' hg').1)
        have HV := Lib.hid hown2
        clear hown2 HO1 H1 hs1
        go_wp2
        go_roundw
        case rel => exact ⟨k + 1, k + 1, _, by omega, by go_num, by go_num, HN.out, owns_lenT HV.out, hb2⟩
        case measure => simp [intOf]; omega
    · obtain rfl : k = s.size := by omega
      have HN := Lib.hid HA.out.last
      have HO1 := Lib.hid (HO.out.alloc (.cells #[.string (s.extract fr s.size)] 9))
      have H1 := Lib.hid (RdS_one' wr (s.extract fr s.size) 9)
      have hb1 : Below w.heap.size w (wr.alloc (.cells #[.string (s.extract fr s.size)] 9)) := hb.alloc hb.size _
      have hs1 := hb1.size
      go_wp2_with (at_builtin; refine wpList_append_texts _ rfl (.tmp 28) (.tmp 32) _ rfl w.heap.size 9 i _ 16 Try.underlying27 HI.out HZ.out HS.out HB.out rfl _ _ _ rfl HO1.out _ _ 1 1 [s.extract fr s.size] rfl H1.out ?_ ?_ ?_ ?_)
      · unfold maxLen; omega
      · omega
      · simpa using hs1
      intro v2 w2 hown2 hg2
      have hb2 : Below w.heap.size w w2 := hb1.grown hg2 hs1 (fun g' hg' => (HO.out.lt g' hg').1)
      have HV := Lib.hid hown2
      clear hown2 HO1 H1 hs1
      go_wp2
      go_ret
      exact ⟨_, rfl, by have := owns_lenT HV.out; rw [HN.out] at this; exact this, hb2⟩

end Go.Proofs.Ytlkpbpecgdphaaa
namespace Go.Proofs.Ytlkpbpecgdphaaa
open Go.RowKit


/-- What a list of slices holds, cell by cell. -/
def RdLS (w : World) (B g off : Nat) (L : List (Option Addr × Nat × Nat × List ByteArray)) : Prop :=
  ∀ j s, L[j]? = some s → w.cell? ⟨g, off + j, none⟩ = some (.slice s.1 s.2.1 s.2.2.1) ∧ RdS w B s.1 s.2.1 s.2.2.1 s.2.2.2
def allFS (L : List (Option Addr × Nat × Nat × List ByteArray)) : List ByteArray := L.flatMap fun s => s.2.2.2
theorem RdLS.keep {w w' : World} {B g off : Nat} {L : List (Option Addr × Nat × Nat × List ByteArray)} (h : RdLS w B g off L) (hg : g < B) (hb : Below B w w') : RdLS w' B g off L :=
  fun j s hs => ⟨(hb.cell (p := ⟨g, off + j, none⟩) hg).trans (h j s hs).1, (h j s hs).2.below hb⟩
theorem allFS_snoc (L : List (Option Addr × Nat × Nat × List ByteArray)) (k : Nat) {s : Option Addr × Nat × Nat × List ByteArray} (h : L[k]? = some s) : allFS (L.take (k + 1)) = allFS (L.take k) ++ s.2.2.2 := by
  have hl := (List.getElem?_eq_some_iff.1 h).1
  rw [List.take_succ_eq_append_getElem hl, allFS, List.flatMap_append]
  have e : L[k] = s := (List.getElem?_eq_some_iff.1 h).2
  rw [e]; simp [allFS]
theorem allFS_mono (L : List (Option Addr × Nat × Nat × List ByteArray)) (k : Nat) : (allFS (L.take k)).length ≤ (allFS L).length := by
  conv => rhs; rw [← List.take_append_drop k L, allFS, List.flatMap_append]
  rw [List.length_append]; exact Nat.le_add_right _ _

def CatRelS (w : World) (n : Nat) (L : List (Option Addr × Nat × Nat × List ByteArray)) (v j : Value) (wr : World) : Prop :=
  ∃ k : Nat, k ≤ n ∧ j = .int .i64 k ∧ wr.ownsRow w.heap.size 9 1 v (allFS (L.take k)).length (tcells (allFS (L.take k))) ∧ Below w.heap.size w wr

end Go.Proofs.Ytlkpbpecgdphaaa
namespace Go.Proofs.Ytlkpbpecgdphaaa
open Go.RowKit

def WdPost (l : Bs) (w : World) (e : Ending) (w' : World) : Prop := ∃ A, e = .returned (.slice (some ⟨A, 0, none⟩) (wordsR l).length (wordsR l).length) ∧ w.heap.size ≤ A ∧ Own1 w' w.heap.size (.slice (some ⟨A, 0, none⟩) (wordsR l).length (wordsR l).length) (wordsR l) ∧ Below w.heap.size w w'
theorem contains37 (s : ByteArray) : Lib.contains s.data.toList [37] = patB s := by
  unfold Lib.contains patB
  rw [Bool.eq_iff_iff, decide_eq_true_eq, decide_eq_true_eq]
  generalize s.data.toList = l
  induction l with
  | nil => simp [Lib.index]
  | cons b l ih =>
    unfold Lib.index
    by_cases hb : b = 37
    · subst hb
      simp [List.isPrefixOf]
    · have h1 : ([37] : Bs).isPrefixOf (b :: l) = false := by simp [List.isPrefixOf, Ne.symm hb]
      rw [h1]
      simp only [Bool.false_eq_true, if_false, List.mem_cons]
      have hge := Lib.index_ge l [37]
      have hb' : ¬ (37 : UInt8) = b := fun e => hb e.symm
      split
      · rename_i h2
        have h2' : Lib.index l [37] = -1 := by simpa using h2
        rw [h2'] at ih
        constructor
        · intro h; omega
        · rintro (h | h)
          · exact absurd h hb'
          · have := ih.2 h; omega
      · rename_i h2
        have h2' : Lib.index l [37] ≠ -1 := by simpa using h2
        constructor
        · intro _; exact .inr (ih.1 (by omega))
        · intro _; omega

def IfRel (l : List ByteArray) (i : Value) : Prop := ∃ k : Nat, k ≤ l.length ∧ i = .int .i64 k ∧ ∀ j g, j < k → l[j]? = some g → patB g = false
theorem anyPat_at {l : List ByteArray} {k : Nat} {f : ByteArray} (h : l[k]? = some f) (e : patB f = true) : l.any patB = true := by
  rw [List.any_eq_true]
  exact ⟨f, List.mem_of_getElem? h, e⟩
theorem anyPat_no {l : List ByteArray} (h : ∀ j g, j < l.length → l[j]? = some g → patB g = false) : l.any patB = false := by
  rw [List.any_eq_false]
  intro f hf
  obtain ⟨j, hj, e⟩ := List.mem_iff_getElem.1 hf
  have := h j f hj (by rw [List.getElem?_eq_getElem hj, e])
  rw [this]
  simp
theorem replace_once (s : ByteArray) : (⟨(Lib.replace s.data.toList [37] [97] 1).toArray⟩ : ByteArray) = onceR s := by
  unfold Lib.replace onceR
  rw [if_neg (by decide)]
  have hge := Lib.index_ge s.data.toList [37]
  by_cases h : Lib.index s.data.toList [37] = -1
  · rw [cut_none h]
    have hc : Lib.count s.data.toList [37] = 0 := by
      unfold Lib.count Lib.countFrom
      simp [h]
    have hn : Lib.replaceNum s.data.toList [37] 1 = 0 := by unfold Lib.replaceNum; rw [hc]; simp
    rw [hn]
    simp only [Lib.replaceK, Bool.false_eq_true, if_false]
  · obtain ⟨i, ei⟩ : ∃ i : Nat, Lib.index s.data.toList [37] = i := ⟨(Lib.index s.data.toList [37]).toNat, by omega⟩
    rw [cut_at ei]
    have hc : 1 ≤ Lib.count s.data.toList [37] := by
      unfold Lib.count Lib.countFrom
      have : (Lib.index s.data.toList [37] == -1) = false := by rw [beq_eq_false_iff_ne]; exact h
      rw [this]
      simp
    have hn : Lib.replaceNum s.data.toList [37] 1 = 1 := by unfold Lib.replaceNum; rw [if_neg (by omega)]; rfl
    rw [hn, Lib.replaceK_hit _ _ _ _ i ei]
    simp [Lib.replaceK, ba]
end Go.Proofs.Ytlkpbpecgdphaaa
namespace Go.Proofs.Ytlkpbpecgdphaaa
open Go.RowKit

theorem RdS.take {w : World} {B : Nat} {A : Option Addr} {n c : Nat} {l : List ByteArray} (h : RdS w B A n c l) {k : Nat} (hk : k ≤ n) : RdS w B A k c (l.take k) :=
  ⟨by rw [List.length_take, h.1]; omega, by have := h.2.1; omega, h.2.2.1, fun h0 => by
    obtain ⟨b, off, e, hb, hc⟩ := h.2.2.2 (by omega)
    refine ⟨b, off, e, hb, fun j u hu => ?_⟩
    rcases Nat.lt_or_ge j k with h1 | h1
    · rw [List.getElem?_take_of_lt h1] at hu
      exact hc j u hu
    · rw [List.getElem?_take_eq_none h1] at hu
      cases hu⟩
theorem shaped_many {T N : List ByteArray} (h1 : T.any patB = true) (h2 : 1 < T.length) : shapedR T N = false := by
  unfold shapedR
  rw [h1, decide_eq_true h2]
  rfl
theorem shaped_bad {T N : List ByteArray} {k : Nat} {x : ByteArray} (hx : (T ++ N)[k]? = some x) (h : wordOk (T ++ N) (T.any patB) k x = false) : shapedR T N = false := by
  have hk := (List.getElem?_eq_some_iff.1 hx).1
  unfold shapedR
  have : ((List.range (T ++ N).length).all fun i => wordOk (T ++ N) (T.any patB) i ((T ++ N)[i]?.getD ⟨#[]⟩)) = false := by
    rw [List.all_eq_false]
    exact ⟨k, List.mem_range.2 hk, by rw [hx]; simp [h]⟩
  rw [this]
  simp
theorem shaped_good {T N : List ByteArray} (h0 : ¬ (T.any patB = true ∧ 1 < T.length)) (h : ∀ k x, (T ++ N)[k]? = some x → wordOk (T ++ N) (T.any patB) k x = true) : shapedR T N = true := by
  unfold shapedR
  have h1 : (T.any patB && decide (1 < T.length)) = false := by
    cases hp : T.any patB with
    | false => rfl
    | true => rw [Bool.true_and]; exact decide_eq_false (fun h2 => h0 ⟨hp, h2⟩)
  rw [h1]
  simp only [Bool.not_false, Bool.true_and, List.all_eq_true, List.mem_range]
  intro i hi
  rw [List.getElem?_eq_getElem hi]
  exact h i _ (List.getElem?_eq_getElem hi)
theorem onceR_size (s : ByteArray) : (onceR s).size = s.size := by
  unfold onceR
  split
  · rename_i h
    have := cut_short h
    rw [ba_size]
    simp at this ⊢
    omega
  · rfl

end Go.Proofs.Ytlkpbpecgdphaaa
namespace Go.Proofs.Ytlkpbpecgdphaaa
open Go.RowKit

theorem wordsR_len (l : Bs) : (wordsR l).length ≤ l.length + 1 := by
  unfold wordsR
  rw [List.length_map]
  exact fldGo_len [] l
theorem rdS_below {w w' : World} {B : Nat} {v : Value} {l : List ByteArray} (h : Own1 w B v l) (hb : Below w.heap.size w w') : Own1 w' B v l := h.kept (grown_of_below hb) (by cases v.ownBlock <;> simp)

end Go.Proofs.Ytlkpbpecgdphaaa
namespace Go.Proofs.Ytlkpbpecgdphaaa
open Go.RowKit

theorem noteB_nil {s : ByteArray} (h : s.size = 0) : noteB s = true := by
  have : s.data.toList = [] := List.eq_nil_of_length_eq_zero (by simpa using h)
  unfold noteB
  rw [this]
theorem noteB_at {s : ByteArray} (h : 0 < s.size) : noteB s = decide (s[0] = 35) := by
  unfold noteB
  have e : s.data.toList = s[0] :: s.data.toList.drop 1 := by
    have := List.drop_eq_getElem_cons (l := s.data.toList) (i := 0) (by simpa using h)
    rw [List.drop_zero] at this
    exact this
  rw [e]
end Go.Proofs.Ytlkpbpecgdphaaa
namespace Go.Proofs.Ytlkpbpecgdphaaa
open Go.RowKit

theorem txtKeyed : Maps.Keyed Try.prog 9 := Maps.string_keyed Try.underlying9
theorem txtKey (s : ByteArray) (hs : s.size ≤ maxLen) : keyOf Try.prog 9 (.string s) = some (.string s.data.toList) := WideMaps.keyOf_string_mk Try.underlying9 hs
theorem zeroB (w : World) : (zeroValue 4).run Try.prog w = .ok (.bool false) w := by kernel_rfl
theorem plainElem_bool_inv {H : Type} {P : Program} {e : TypeId} (he : P.underlying e = some .bool) {v : Value} {z : DataW H × List MemPlace} (h : plainElem P e v = some z) : ∃ x, v = .bool x ∧ z = (.lit (.bool x), []) := by
  unfold plainElem at h
  rw [he] at h
  cases v <;> simp at h
  exact ⟨_, rfl, h.symm⟩
/-- The map at block bm holds 'true' at just the texts of L. -/
def SetOk (w : World) (bm n : Nat) (L : List ByteArray) : Prop := ∃ D : DataW Unit, w.ownsMap Try.prog 9 (plainElem Try.prog 4) bm n D ∧ ∀ s : ByteArray, s.size ≤ maxLen → D.atKey (.string s.data.toList) (.lit (.bool false)) = .lit (.bool (inT L s))
section
variable {w w' : World} {bm n : Nat} {L : List ByteArray}
theorem SetOk.made (w : World) : SetOk (w.alloc (.map #[] 0)) w.heap.size 0 [] := ⟨.map [], World.ownsMap_made _ _ _ _, fun _s _ => rfl⟩
theorem SetOk.kept {row : Option Nat} (h : SetOk w bm n L) (hg : w.grownBy w' row) (hne : some bm ≠ row) : SetOk w' bm n L := by
  obtain ⟨D, ho, hh⟩ := h
  exact ⟨D, ho.kept hg hne, hh⟩
theorem SetOk.below (h : SetOk w bm n L) (hb : Below w.heap.size w w') : SetOk w' bm n L := h.kept (grown_of_below hb) (by simp)
theorem SetOk.lt (h : SetOk w bm n L) : bm < w.heap.size := by obtain ⟨D, ho, _⟩ := h; exact ho.lt
theorem SetOk.block (h : SetOk w bm n L) : ∃ es c, w.heap[bm]? = some (.map es c) := by
  obtain ⟨D, ⟨es, c, hb, _⟩, _⟩ := h
  exact ⟨es, c, hb⟩
theorem inT_snoc (L : List ByteArray) (s x : ByteArray) : inT (L ++ [s]) x = (inT L x || decide (s = x)) := by
  unfold inT
  rw [List.any_append]
  congr 1
  rw [Bool.eq_iff_iff]
  simp
end

/-- A slice that reads as rules' cells. -/
def RdR (w : World) (B : Nat) (A : Option Addr) (n c : Nat) (R : List Row3) : Prop :=
  R.length = n ∧ n ≤ c ∧ c ≤ maxLen ∧ (0 < n → ∃ b off, A = some ⟨b, off, none⟩ ∧ b < B ∧ ∀ j u, (rcells R)[j]? = some u → w.cell? ⟨b, off + j, none⟩ = some u)
theorem RdR.belowS {w w' : World} {A : Option Addr} {n c : Nat} {R : List Row3} (h : RdR w w.heap.size A n c R) (hb : Below w.heap.size w w') : RdR w' w'.heap.size A n c R :=
  ⟨h.1, h.2.1, h.2.2.1, fun hn => by
    obtain ⟨b, off, e, hbb, hc⟩ := h.2.2.2 hn
    exact ⟨b, off, e, Nat.lt_of_lt_of_le hbb hb.size, fun j u hu => (hb.cell (p := ⟨b, off + j, none⟩) hbb).trans (hc j u hu)⟩⟩
theorem RdR.past_map {w w' : World} {bm n c : Nat} {A : Option Addr} {R : List Row3} (h : RdR w w.heap.size A n c R) (hb : ∃ es c, w.heap[bm]? = some (.map es c)) (hg : w.grownBy w' (some bm)) : RdR w' w'.heap.size A n c R :=
  ⟨h.1, h.2.1, h.2.2.1, fun hn => by
    obtain ⟨b, off, e, hbb, hc⟩ := h.2.2.2 hn
    exact ⟨b, off, e, Nat.lt_of_lt_of_le hbb hg.size, fun j u hu => cell_past_map hb hg (hc j u hu)⟩⟩
theorem RdS.past_map {w w' : World} {bm n c : Nat} {A : Option Addr} {l : List ByteArray} (h : RdS w w.heap.size A n c l) (hb : ∃ es c, w.heap[bm]? = some (.map es c)) (hg : w.grownBy w' (some bm)) : RdS w' w'.heap.size A n c l :=
  ⟨h.1, h.2.1, h.2.2.1, fun hn => by
    obtain ⟨b, off, e, hbb, hc⟩ := h.2.2.2 hn
    exact ⟨b, off, e, Nat.lt_of_lt_of_le hbb hg.size, fun j u hu => cell_past_map hb hg (hc j u hu)⟩⟩
theorem RdR.of_own {w : World} {B : Nat} {v : Value} {R : List Row3} (h : w.ownsRow B 81 3 v R.length (rcells R)) : ∃ A c, v = .slice A R.length c ∧ RdR w w.heap.size A R.length c R := by
  rcases h.2 with ⟨rfl, h0⟩ | ⟨g, cap, cur, rfl, hb, hh, hn, hm, hs, ht⟩
  · rw [h0]
    exact ⟨none, 0, rfl, h0, Nat.le_refl _, Nat.zero_le _, fun h => by omega⟩
  · refine ⟨_, cap, rfl, rfl, hn, hm, fun _ => ⟨g, 0, rfl, (Array.getElem?_eq_some_iff.1 hh).1, fun j u hu => ?_⟩⟩
    have := h.cells (g := g) rfl j u hu
    rwa [Go.WideShapes.add_plain] at this
theorem RdR.at_ {w : World} {B : Nat} {A : Option Addr} {n c : Nat} {R : List Row3} (h : RdR w B A n c R) {i : Nat} {x : Row3} (hi : R[i]? = some x) : ∃ b off, A = some ⟨b, off, none⟩ ∧ b < B ∧ w.cell? ⟨b, off + i * 3, none⟩ = some x.1 ∧ w.cell? ⟨b, off + i * 3 + 1, none⟩ = some x.2.1 ∧ w.cell? ⟨b, off + i * 3 + 2, none⟩ = some x.2.2 := by
  have hl : i < R.length := (List.getElem?_eq_some_iff.1 hi).1
  obtain ⟨b, off, e, hb, hc⟩ := h.2.2.2 (by have := h.1; omega)
  obtain ⟨h1, h2, h3⟩ := rcells_at hi
  exact ⟨b, off, e, hb, hc _ _ h1, hc _ _ h2, hc _ _ h3⟩
/-- A value that reads as texts. -/
def Sl (w : World) (v : Value) (l : List ByteArray) : Prop := ∃ A c, v = .slice A l.length c ∧ RdS w w.heap.size A l.length c l
theorem Sl.belowS {w w' : World} {v : Value} {l : List ByteArray} (h : Sl w v l) (hb : Below w.heap.size w w') : Sl w' v l := by obtain ⟨A, c, e, hr⟩ := h; exact ⟨A, c, e, hr.belowS hb⟩
theorem Sl.past_map {w w' : World} {bm : Nat} {v : Value} {l : List ByteArray} (h : Sl w v l) (hb : ∃ es c, w.heap[bm]? = some (.map es c)) (hg : w.grownBy w' (some bm)) : Sl w' v l := by obtain ⟨A, c, e, hr⟩ := h; exact ⟨A, c, e, hr.past_map hb hg⟩
theorem Sl.own {w : World} {B : Nat} {v : Value} {l : List ByteArray} (h : Own1 w B v l) : Sl w v l := RdS.of_own h
/-- A description as it is read. -/
structure MkRd (w : World) (m : Mk) (vv vr vp : Value) (R : List Row3) : Prop where
  vars : ∃ A c, vv = .slice A m.vars.length c ∧ RdF w w.heap.size A m.vars.length c m.vars
  rules : ∃ A c, vr = .slice A R.length c ∧ RdR w w.heap.size A R.length c R
  len : R.length = m.rules.length
  each : ∀ (i : Nat) (x : Row3) (u : Ru), R[i]? = some x → m.rules[i]? = some u → Sl w x.1 u.1 ∧ Sl w x.2.1 u.2.1 ∧ Sl w x.2.2 u.2.2
  phony : Sl w vp m.phony
section
variable {w w' : World} {B g : Nat} {m : Mk} {vv vr vp : Value} {R : List Row3}
theorem MkOk.rd (h : MkOk w B g m vv vr vp R) : MkRd w m vv vr vp R :=
  ⟨h.rdVars, RdR.of_own h.rules, h.len, fun i x u hx hu => by obtain ⟨a, b, c⟩ := h.each i x u hx hu; exact ⟨Sl.own a, Sl.own b, Sl.own c⟩, Sl.own h.phony⟩
theorem MkRd.belowS (h : MkRd w m vv vr vp R) (hb : Below w.heap.size w w') : MkRd w' m vv vr vp R := by
  obtain ⟨A, c, e, hr⟩ := h.vars
  obtain ⟨A2, c2, e2, hr2⟩ := h.rules
  exact ⟨⟨A, c, e, hr.belowS hb⟩, ⟨A2, c2, e2, hr2.belowS hb⟩, h.len, fun i x u hx hu => by obtain ⟨a, b, c⟩ := h.each i x u hx hu; exact ⟨a.belowS hb, b.belowS hb, c.belowS hb⟩, h.phony.belowS hb⟩
theorem MkRd.past_map {bm : Nat} (h : MkRd w m vv vr vp R) (hb : ∃ es c, w.heap[bm]? = some (.map es c)) (hg : w.grownBy w' (some bm)) : MkRd w' m vv vr vp R := by
  obtain ⟨A, c, e, hr⟩ := h.vars
  obtain ⟨A2, c2, e2, hr2⟩ := h.rules
  exact ⟨⟨A, c, e, hr.past_map hb hg⟩, ⟨A2, c2, e2, hr2.past_map hb hg⟩, h.len, fun i x u hx hu => by obtain ⟨a, b, c⟩ := h.each i x u hx hu; exact ⟨a.past_map hb hg, b.past_map hb hg, c.past_map hb hg⟩, h.phony.past_map hb hg⟩
end
theorem mkRd0 (w : World) : MkRd w mk0 (.slice none 0 0) (.slice none 0 0) (.slice none 0 0) [] :=
  ⟨⟨none, 0, rfl, RdF.nil _ _⟩, ⟨none, 0, rfl, rfl, Nat.le_refl _, Nat.zero_le _, fun h => by simp at h⟩, rfl, fun i x u hx => by simp at hx, ⟨none, 0, rfl, RdS.nil _ _⟩⟩

def AgRel (made T : List ByteArray) (i : Value) : Prop := ∃ k : Nat, k ≤ T.length ∧ i = .int .i64 k ∧ ∀ j x, j < k → T[j]? = some x → inT made x = false
theorem agrees_bad {phony made : List ByteArray} {u : Ru} {k : Nat} {x : ByteArray} (hx : u.1[k]? = some x) (h : inT made x = true) : agreesR phony made u = false := by
  unfold agreesR
  have : (u.1.all fun t => !inT made t) = false := by
    rw [List.all_eq_false]
    exact ⟨x, List.mem_of_getElem? hx, by simp [h]⟩
  rw [this]
  rfl
theorem agrees_rest {phony made : List ByteArray} {u : Ru} (h : ∀ j x, j < u.1.length → u.1[j]? = some x → inT made x = false) :
    agreesR phony made u = (!inAt phony u.1 1 && (inAt phony u.1 0 == decide (u.2.2.length = 0))) := by
  unfold agreesR
  have : (u.1.all fun t => !inT made t) = true := by
    rw [List.all_eq_true]
    intro x hx
    obtain ⟨j, hj, e⟩ := List.mem_iff_getElem.1 hx
    rw [h j x hj (by rw [List.getElem?_eq_getElem hj, e])]
    rfl
  rw [this, Bool.true_and]

end Go.Proofs.Ytlkpbpecgdphaaa
