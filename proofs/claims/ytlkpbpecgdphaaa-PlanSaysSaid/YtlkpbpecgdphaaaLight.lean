/-
  WALKS: hammerpondlaw.LightFiles (what it lets through is short and rises) and hammerpondref.SameFiles (are two lists the same?), for slices that read as files.
-/
import Derived.Test.YtlkpbpecgdphaaaRows
import Derived.Test.YtlkpbpecgdphaaaMem
import Derived.WalkKit
import Derived.WalkSpells
import Derived.WalkLawsBesides
import Derived.Deep.QuietTactic
import Derived.BigQuiet
import Derived.Deep.LoopGhost
import Derived.Lib.Hide
import Derived.Below
import Derived.Laws.OwnMore
import Derived.Laws.Tables
import Derived.Laws.MakeOwn
import Derived.Deep.AppendLies
import Derived.Deep.Draws
import Derived.Maps.AppendAt
import Derived.OwnWalk
import Derived.WideShapes
import Derived.RegionTactic
import Derived.RangeFuncRecord
import Derived.Deep.RegionHeld3
import Derived.Laws.StructEq
namespace Go.Proofs.Ytlkpbpecgdphaaa
open Go.RowKit

/-- The closure: is the name at i not less? -/
theorem closure_any (b off n c i p q : Nat) (x y : ByteArray) (w : World) (hi : i < n)
    (h1 : w.cell? ⟨p, 0, none⟩ = some (.slice (some ⟨b, off, none⟩) n c)) (h2 : w.cell? ⟨q, 0, none⟩ = some (.string y)) (h3 : w.cell? ⟨b, off + i * 2, none⟩ = some (.string x)) :
    Calls Try.prog 73 #[.int .i64 i, .pointer (some ⟨p, 0, none⟩), .pointer (some ⟨q, 0, none⟩)] w fun e w' => e = .returned (.bool (!lt x y)) ∧ ∃ k, w' = w.drewN k := by
  have hiz : (i : Int) < (n : Int) := by omega
  go_enter Try.func73, Try.ntmps73
  go_wp2
  go_quiet (fail)
  go_wp2
  go_ret
  exact ⟨rfl, _, rfl⟩

set_option maxHeartbeats 1000000 in
set_option maxRecDepth 100000 in
/-- sort.Search over that closure: how many places answer no. -/
theorem search_any (n p q m : Nat) (g : Nat → Bool) (w : World) (hn : n < 1099511627776) (hm : m ≤ n)
    (hf : ∀ (k i : Nat), i < n → Calls Try.prog 73 #[.int .i64 i, .pointer (some ⟨p, 0, none⟩), .pointer (some ⟨q, 0, none⟩)] (w.drewN k) fun e w' => e = .returned (.bool (g i)) ∧ ∃ k', w' = (w.drewN k).drewN k')
    (hlo : ∀ i, i < m → g i = false) (hhi : ∀ i, m ≤ i → i < n → g i = true) :
    Calls Try.prog 72 #[.int .i64 n, .func (.func 73) #[] #[.pointer (some ⟨p, 0, none⟩), .pointer (some ⟨q, 0, none⟩)]] w fun e w' => e = .returned (.int .i64 m) ∧ ∃ k, w' = w.drewN k := by
  have HF := Lib.hid hf
  have L := Lib.hid hlo
  have U := Lib.hid hhi
  clear hf hlo hhi
  go_enter Try.func72, Try.ntmps72
  go_wp2
  go_loopg [5, 6] n (fun kx s5 s6 wr => ∃ (lo hi k : Nat), s5 = .int .i64 lo ∧ s6 = .int .i64 hi ∧ lo ≤ m ∧ m ≤ hi ∧ hi ≤ n ∧ hi - lo ≤ kx ∧ wr = w.drewN k)
  case atStart => exact ⟨0, n, 0, rfl, rfl, Nat.zero_le _, hm, Nat.le_refl _, by omega, rfl⟩
  case round =>
    obtain ⟨lo, hi, k, rfl, rfl, h1, h2, h3, h4, rfl⟩ := hrel
    by_cases hlt : lo < hi
    · have hc := HF.out k ((lo + hi) / 2) (by omega)
      rw [show (((lo + hi) / 2 : Nat) : Int) = ((lo : Int) + (hi : Int)) / 2 by omega] at hc
      by_cases hmid : (lo + hi) / 2 < m
      · rw [L.out _ hmid] at hc
        go_wp2_with fail
        refine hc.mono ?_
        rintro e w1 ⟨rfl, k', rfl⟩
        go_wp2
        go_roundg (hi - ((lo + hi) / 2 + 1))
        case measure => omega
        case rel => exact ⟨(lo + hi) / 2 + 1, hi, k + k', by rw [show ((lo : Int) + (hi : Int)) / 2 + 1 = (((lo + hi) / 2 + 1 : Nat) : Int) by omega], rfl, by omega, h2, h3, Nat.le_refl _, by first | rfl | rw [World.drewN_drewN]⟩
      · rw [U.out _ (by omega) (by omega)] at hc
        go_wp2_with fail
        refine hc.mono ?_
        rintro e w1 ⟨rfl, k', rfl⟩
        go_wp2
        go_roundg ((lo + hi) / 2 - lo)
        case measure => omega
        case rel => exact ⟨lo, (lo + hi) / 2, k + k', rfl, by rw [show ((lo : Int) + (hi : Int)) / 2 = (((lo + hi) / 2 : Nat) : Int) by omega], h1, by omega, by omega, Nat.le_refl _, by first | rfl | rw [World.drewN_drewN]⟩
    · obtain rfl : hi = m := by omega
      obtain rfl : lo = hi := by omega
      go_wp2
      go_ret
      exact ⟨rfl, k, rfl⟩

theorem box_below (w : World) (o o' : Obj) : Below w.heap.size w ((w.alloc o).alloc o') := ((Below.refl _ _).alloc (Nat.le_refl _) o).alloc (by simp) o'

theorem has_at {l : List F} (hs : Rises l) (x : ByteArray) {f : F} (hf : l[cut l x]? = some f) : has l x = (f.1.toList == x.toList) := by
  rw [Bool.eq_iff_iff, cut_has hs, beq_iff_eq]
  constructor
  · rintro ⟨g, hg, rfl⟩
    rw [hf] at hg; injection hg with hg; rw [hg]
  · intro e
    exact ⟨f, hf, toList_inj e⟩
theorem has_end {l : List F} (hs : Rises l) (x : ByteArray) (hf : l.length ≤ cut l x) : has l x = false := by
  cases h : has l x with
  | false => rfl
  | true =>
    obtain ⟨g, hg, _⟩ := (cut_has hs x).1 h
    rw [List.getElem?_eq_none hf] at hg; cases hg

set_option maxHeartbeats 1000000 in
set_option maxRecDepth 100000 in
/-- files.place: where the name belongs, and whether it is there. -/
theorem place_any (A : Option Addr) (n c : Nat) (l : List F) (x : ByteArray) (w : World) (h : RdF w w.heap.size A n c l) (hs : Rises l) (hn : n < 1099511627776) :
    Calls Try.prog 61 #[.slice A n c, .string x] w fun e w' => e = .returned (.tuple #[.int .i64 (cut l x : Nat), .bool (has l x)]) ∧ Below w.heap.size w w' := by
  have hmf : ∀ (fn : Fn) (first cap : Array Value) (w : World), (Instr.makeFunc fn first cap).run Try.prog w = .ok (.func fn first cap) w := fun _ _ _ _ => rfl
  have hc1 : ((w.alloc (.cells #[.slice A n c] 22)).alloc (.cells #[.string x] 9)).cell? ⟨w.heap.size, 0, none⟩ = some (.slice A n c) := by
    rw [World.cell?_alloc_past _ _ _ (by simp), World.cell?_alloc_at _ _ _ _ rfl]; rfl
  have hc2 : ((w.alloc (.cells #[.slice A n c] 22)).alloc (.cells #[.string x] 9)).cell? ⟨w.heap.size + 1, 0, none⟩ = some (.string x) := by
    rw [World.cell?_alloc_at _ _ _ _ (by simp)]; rfl
  have hb := box_below w (.cells #[.slice A n c] 22) (.cells #[.string x] 9)
  have HR := Lib.hid (h.below hb)
  have HL := Lib.hid h.1
  have hcl := cut_le (l := l) x
  rw [h.1] at hcl
  clear h
  generalize hm : cut l x = m at hcl ⊢
  generalize hr : has l x = r
  have HM := Lib.hid hm
  have HH := Lib.hid hr
  clear hm hr
  go_enter Try.func61, Try.ntmps61
  go_wp2_with fail
  generalize (w.alloc (.cells #[.slice A n c] 22)).alloc (.cells #[.string x] 9) = W at *
  refine (search_any n w.heap.size (w.heap.size + 1) m (fun i => match l[i]? with | some f => !lt f.1 x | none => true) W hn hcl ?_ ?_ ?_).mono ?_
  · intro k i hi
    have hil : i < l.length := by rw [HL.out]; exact hi
    obtain ⟨b, off, rfl, _, hcell, _⟩ := HR.out.at_ (List.getElem?_eq_getElem hil)
    rw [List.getElem?_eq_getElem hil]
    exact closure_any b off n c i _ _ _ x (W.drewN k) hi hc1 hc2 hcell
  · intro i hi
    have hil : i < l.length := by rw [HL.out]; omega
    rw [List.getElem?_eq_getElem hil]
    have := (cut_lt hs x (List.getElem?_eq_getElem hil)).2 (by rw [HM.out]; exact hi)
    simp [this]
  · intro i hi hin
    have hil : i < l.length := by rw [HL.out]; exact hin
    rw [List.getElem?_eq_getElem hil]
    have : lt l[i].1 x = false := by
      cases e : lt l[i].1 x with
      | false => rfl
      | true => have := (cut_lt hs x (List.getElem?_eq_getElem hil)).1 e; rw [HM.out] at this; omega
    simp [this]
  rintro e w1 ⟨rfl, k, rfl⟩
  by_cases hk : m < n
  · have hil : m < l.length := by rw [HL.out]; exact hk
    obtain ⟨f, hf⟩ : ∃ f, l[m]? = some f := ⟨_, List.getElem?_eq_getElem hil⟩
    have hhas := has_at hs x (f := f) (by rw [HM.out]; exact hf)
    obtain ⟨b, off, rfl, _, hcell, _⟩ := HR.out.at_ hf
    clear hf
    generalize f.1 = y at *
    rw [HH.out] at hhas
    have HX := Lib.hid hhas
    clear hhas hil hcl HR HL hmf HM HH
    have hkz : (m : Int) < (n : Int) := by omega
    go_wp2
    go_quiet (fail)
    go_wp2
    go_ret2
    exact ⟨by rw [HX.out]; rfl, ⟨hb.os, hb.tape, hb.output, hb.size, hb.block⟩⟩
  · have hhas := has_end hs x (by rw [HL.out, HM.out]; omega)
    rw [HH.out] at hhas
    have HX := Lib.hid hhas
    clear hhas HR HL hmf hs HM HH
    have hkz : decide ((m : Int) < (n : Int)) = false := decide_eq_false (by omega)
    go_wp2
    go_quiet (fail)
    go_wp2
    go_ret2
    exact ⟨by rw [HX.out]; rfl, ⟨hb.os, hb.tape, hb.output, hb.size, hb.block⟩⟩

/-- files.Get. -/
theorem get_any (A : Option Addr) (n c : Nat) (l : List F) (x : ByteArray) (w : World) (h : RdF w w.heap.size A n c l) (hs : Rises l) (hn : n < 1099511627776) :
    Calls Try.prog 43 #[.slice A n c, .string x] w fun e w' => e = .returned (.tuple #[.string (textF l x), .bool (has l x)]) ∧ Below w.heap.size w w' := by
  generalize hr : has l x = r
  generalize ht : textF l x = t
  have HL := Lib.hid h.1
  have HR := Lib.hid h
  clear h
  cases r with
  | false =>
    rw [textF_none hr] at ht
    subst ht
    have HH := Lib.hid hr
    clear hr
    go_enter Try.func43, Try.ntmps43
    go_wp2_with fail
    refine (place_any A n c l x w HR.out hs hn).mono ?_
    rintro e w1 ⟨rfl, hb⟩
    rw [HH.out]
    go_wp2
    go_ret2
    exact ⟨rfl, hb⟩
  | true =>
    obtain ⟨f, hf, rfl⟩ := (cut_has hs x).1 hr
    rw [textF_of hs (List.mem_of_getElem? hf)] at ht
    have hk : cut l f.1 < n := by rw [← HL.out]; exact (List.getElem?_eq_some_iff.1 hf).1
    have HH := Lib.hid hr
    clear hr
    go_enter Try.func43, Try.ntmps43
    go_wp2_with fail
    refine (place_any A n c l f.1 w HR.out hs hn).mono ?_
    rintro e w1 ⟨rfl, hb⟩
    rw [HH.out]
    obtain ⟨b, off, rfl, hlt, _, hcell⟩ := HR.out.at_ hf
    generalize cut l f.1 = m at *
    have hkz : (m : Int) < (n : Int) := by omega
    have hc1 : w1.cell? ⟨b, off + m * 2 + 1, none⟩ = some (.string f.2) := (hb.cell hlt).trans hcell
    rw [ht] at hc1
    clear hcell HR HL hf HH
    go_wp2
    go_ret2
    exact ⟨rfl, hb⟩

set_option maxHeartbeats 1000000 in
set_option maxRecDepth 100000 in
/-- files.around: what is less, and what is greater. -/
theorem around_any (A : Option Addr) (n c : Nat) (l : List F) (x : ByteArray) (w : World) (h : RdF w w.heap.size A n c l) (hs : Rises l) (hn : n < 1099511627776) :
    Calls Try.prog 62 #[.slice A n c, .string x] w fun e w' => ∃ A1 n1 c1 A2 n2 c2, e = .returned (.tuple #[.slice A1 n1 c1, .slice A2 n2 c2]) ∧
      RdF w w.heap.size A1 n1 c1 (lo l x) ∧ RdF w w.heap.size A2 n2 c2 (hi l x) ∧ Below w.heap.size w w' := by
  have hm := h.2.2.1
  unfold maxLen at hm
  have hnc := h.2.1
  have HR := Lib.hid h
  have hcl := cut_le (l := l) x
  rw [h.1] at hcl
  have h1 := h.take hcl
  rw [cut_take hs] at h1
  have H1 := Lib.hid h1
  clear h h1
  cases hr : has l x with
  | true =>
    obtain ⟨f, hf, rfl⟩ := (cut_has hs x).1 hr
    have hk : cut l f.1 < n := by rw [← HR.out.1]; exact (List.getElem?_eq_some_iff.1 hf).1
    have h2 := HR.out.drop (k := cut l f.1 + 1) (by omega)
    have e2 := cut_drop hs f.1
    rw [if_pos hr] at e2
    rw [e2] at h2
    have H2 := Lib.hid h2
    have HH := Lib.hid hr
    clear hr h2 e2 hf
    go_enter Try.func62, Try.ntmps62
    go_wp2_with fail
    refine (place_any A n c l f.1 w HR.out hs hn).mono ?_
    rintro e w1 ⟨rfl, hb⟩
    rw [HH.out]
    generalize cut l f.1 = m at *
    clear HR HH
    go_wp2
    go_quiet (fail)
    go_wp2
    all_goals
      go_ret2
      have G1 := H1.out
      have G2 := H2.out
      by_cases hcm : c = m + 1
      · first
        | (exfalso; omega)
        | (subst hcm; rw [if_pos rfl, Nat.sub_self] at G2; exact ⟨_, _, _, _, _, _, rfl, G1, G2, ⟨hb.os, hb.tape, hb.output, hb.size, hb.block⟩⟩)
      · first
        | (exfalso; omega)
        | (rw [if_neg hcm] at G2; exact ⟨_, _, _, _, _, _, rfl, G1, G2, ⟨hb.os, hb.tape, hb.output, hb.size, hb.block⟩⟩)
  | false =>
    have h2 := HR.out.drop hcl
    have e2 := cut_drop hs x
    rw [if_neg (by simp [hr]), Nat.add_zero] at e2
    rw [e2] at h2
    have H2 := Lib.hid h2
    have HH := Lib.hid hr
    clear hr h2 e2
    go_enter Try.func62, Try.ntmps62
    go_wp2_with fail
    refine (place_any A n c l x w HR.out hs hn).mono ?_
    rintro e w1 ⟨rfl, hb⟩
    rw [HH.out]
    generalize cut l x = m at *
    clear HR HH
    go_wp2
    go_quiet (fail)
    go_wp2
    all_goals
      go_ret2
      have G1 := H1.out
      have G2 := H2.out
      by_cases hcm : c = m
      · first
        | (exfalso; omega)
        | (subst hcm; rw [if_pos rfl, Nat.sub_self] at G2; exact ⟨_, _, _, _, _, _, rfl, G1, G2, ⟨hb.os, hb.tape, hb.output, hb.size, hb.block⟩⟩)
      · first
        | (exfalso; omega)
        | (rw [if_neg hcm] at G2; exact ⟨_, _, _, _, _, _, rfl, G1, G2, ⟨hb.os, hb.tape, hb.output, hb.size, hb.block⟩⟩)
end Go.Proofs.Ytlkpbpecgdphaaa
namespace Go.Proofs.Ytlkpbpecgdphaaa
open Go.RowKit

/-- What may have turned between two worlds: of the blocks that were there, those of S alone. -/
structure Upd (w w' : World) (S : Nat → Prop) : Prop where
  os : w'.os = w.os
  tape : w'.tape = w.tape
  output : w'.output = w.output
  size : w.heap.size ≤ w'.heap.size
  block : ∀ k, k < w.heap.size → ¬ S k → w'.heap[k]? = w.heap[k]?
theorem Upd.refl (w : World) (S : Nat → Prop) : Upd w w S := ⟨rfl, rfl, rfl, Nat.le_refl _, fun _ _ _ => rfl⟩
theorem Upd.trans {a b c : World} {S S' : Nat → Prop} (h : Upd a b S) (k : Upd b c S') (hs : ∀ i, i < a.heap.size → S' i → S i) : Upd a c S :=
  ⟨k.os.trans h.os, k.tape.trans h.tape, k.output.trans h.output, Nat.le_trans h.size k.size, fun i hi hn => (k.block i (Nat.lt_of_lt_of_le hi h.size) (fun s => hn (hs i hi s))).trans (h.block i hi hn)⟩
theorem Upd.mono {a b : World} {S S' : Nat → Prop} (h : Upd a b S) (hs : ∀ k, k < a.heap.size → S k → S' k) : Upd a b S' :=
  ⟨h.os, h.tape, h.output, h.size, fun k hk hn => h.block k hk (fun s => hn (hs k hk s))⟩
theorem Upd.below {a b : World} {S : Nat → Prop} {B : Nat} (h : Upd a b S) (hB : B ≤ a.heap.size) (hs : ∀ k, S k → B ≤ k) : Below B a b :=
  ⟨h.os, h.tape, h.output, h.size, fun k hk => h.block k (by omega) (fun s => by have := hs k s; omega)⟩
theorem Upd.set {a w : World} {S : Nat → Prop} (h : Upd a w S) {b i : Nat} (hb : a.heap.size ≤ b ∨ S b) (u : Value) : Upd a (w.setCell ⟨b, i, none⟩ u) S :=
  ⟨h.os, h.tape, h.output, by have := h.size; simpa [World.setCell] using this, fun k hk hn => (Below.heap_setCell _ _ _ _ (fun e => by
    rcases hb with hb | hb
    · simp at e; omega
    · exact hn (by rw [show k = b from e]; exact hb))).trans (h.block k hk hn)⟩
theorem Upd.alloc {a w : World} {S : Nat → Prop} (h : Upd a w S) (o : Obj) : Upd a (w.alloc o) S :=
  ⟨h.os, h.tape, h.output, by have := h.size; simp; omega, fun k hk hn => (Below.heap_alloc _ _ _ (Nat.lt_of_lt_of_le hk h.size)).trans (h.block k hk hn)⟩
theorem Upd.drew {a w : World} {S : Nat → Prop} (h : Upd a w S) : Upd a w.drew S := ⟨h.os, h.tape, h.output, h.size, h.block⟩

abbrev ptr (b : Nat) : Value := .pointer (some ⟨b, 0, none⟩)
/-- A block of cells, none of them frozen. -/
def Blk (w : World) (b : Nat) (t : TypeId) (cs : Array Value) : Prop := w.heap[b]? = some (.cells cs t (0, 0))
section
variable {w w' : World} {b : Nat} {t : TypeId} {cs : Array Value}
theorem Blk.cell (h : Blk w b t cs) (i : Nat) : w.cell? ⟨b, i, none⟩ = cs[i]? := by unfold Blk at h; simp [World.cell?, h]
theorem Blk.free (h : Blk w b t cs) (i : Nat) : w.frozen? ⟨b, i, none⟩ = false := by unfold Blk at h; simp [World.frozen?, h]
theorem Blk.lt (h : Blk w b t cs) : b < w.heap.size := (Array.getElem?_eq_some_iff.1 h).1
theorem Blk.set (h : Blk w b t cs) (i : Nat) (u : Value) : Blk (w.setCell ⟨b, i, none⟩ u) b t (cs.setIfInBounds i u) := by
  unfold Blk at h ⊢
  rw [setCell_eq_setRow _ _ _ _ _ _ _ h]
  exact setRow_heap _ _ _ _ _ _ h
theorem Blk.other (h : Blk w b t cs) {k i : Nat} (hk : b ≠ k) (u : Value) : Blk (w.setCell ⟨k, i, none⟩ u) b t cs := (Below.heap_setCell _ _ _ _ hk).trans h
theorem Blk.alloc (h : Blk w b t cs) (o : Obj) : Blk (w.alloc o) b t cs := (Below.heap_alloc _ _ _ h.lt).trans h
theorem Blk.new (w : World) (t : TypeId) (cs : Array Value) : Blk (w.alloc (.cells cs t)) w.heap.size t cs := World.alloc_heap_new _ _
theorem Blk.drew (h : Blk w b t cs) : Blk w.drew b t cs := h
theorem Blk.upd {S : Nat → Prop} (h : Blk w b t cs) (hu : Upd w w' S) (hs : ¬ S b) : Blk w' b t cs := (hu.block b h.lt hs).trans h
end
theorem own_shape {w : World} {B : Nat} {e : TypeId} {z : Nat} {v : Value} {n : Nat} {xs : List Value} (h : w.ownsRow B e z v n xs) : ∃ A c, v = .slice A n c := by
  rcases h.2 with ⟨rfl, rfl⟩ | ⟨g, cap, cur, rfl, _⟩
  · exact ⟨_, _, rfl⟩
  · exact ⟨_, _, rfl⟩
theorem Blk.grown {w w' : World} {b : Nat} {t : TypeId} {cs : Array Value} {row : Option Nat} (h : Blk w b t cs) (hg : w.grownBy w' row) (hn : row ≠ some b) : Blk w' b t cs := (hg.block b h.lt (fun e => hn e.symm)).trans h
end Go.Proofs.Ytlkpbpecgdphaaa
namespace Go.Proofs.Ytlkpbpecgdphaaa
open Go.RowKit

abbrev noS : Value := .string ⟨#[]⟩
abbrev noP : Value := .pointer none
abbrev noT : Value := .slice none 0 0
abbrev leaf (v : ByteArray) (p : Int) : Array Value := #[.string v, .int .i64 p, noS, noP, noT]


abbrev tab (T : Nat) : Value := .slice (some ⟨T, 0, none⟩) 5 5

end Go.Proofs.Ytlkpbpecgdphaaa
namespace Go.Proofs.Ytlkpbpecgdphaaa
open Go.RowKit



end Go.Proofs.Ytlkpbpecgdphaaa
namespace Go.Proofs.Ytlkpbpecgdphaaa
open Go.RowKit

/-- The first k files are short, and rise. -/
def LitTo (l : List F) (k : Nat) : Prop :=
  (∀ j f, j < k → l[j]? = some f → f.1.size ≤ 20 ∧ f.2.size ≤ 60) ∧ (∀ j f g, j + 1 < k → l[j]? = some f → l[j + 1]? = some g → lt f.1 g.1 = true)
def Lit (l : List F) : Prop := l.length ≤ 24 ∧ Rises l ∧ ∀ f ∈ l, f.1.size ≤ 20 ∧ f.2.size ≤ 60

theorem rises_adj : ∀ l : List F, (∀ j f g, l[j]? = some f → l[j + 1]? = some g → lt f.1 g.1 = true) → Rises l
  | [], _ => List.Pairwise.nil
  | [_], _ => List.pairwise_singleton _ _
  | a :: b :: l, h => by
    have ih := rises_adj (b :: l) (fun j f g hf hg => h (j + 1) f g (by simpa using hf) (by simpa using hg))
    have hab := h 0 a b rfl rfl
    refine List.pairwise_cons.2 ⟨fun g hg => ?_, ih⟩
    rcases List.mem_cons.1 hg with rfl | hg
    · exact hab
    · exact lt_trans hab (ih.head g hg)
theorem LitTo.all {l : List F} (h : LitTo l l.length) (h24 : l.length ≤ 24) : Lit l := by
  refine ⟨h24, rises_adj l fun j f g hf hg => h.2 j f g (List.getElem?_eq_some_iff.1 hg).1 hf hg, fun f hf => ?_⟩
  obtain ⟨j, hj, e⟩ := List.mem_iff_getElem.1 hf
  exact h.1 j f hj (by rw [List.getElem?_eq_getElem hj, e])
theorem LitTo.zero (l : List F) : LitTo l 0 := ⟨fun _ _ h => by omega, fun _ _ _ h => by omega⟩
theorem LitTo.next {l : List F} {k : Nat} {f : F} (h : LitTo l k) (hf : l[k]? = some f) (h1 : f.1.size ≤ 20) (h2 : f.2.size ≤ 60) (h3 : ∀ g, 0 < k → l[k - 1]? = some g → lt g.1 f.1 = true) : LitTo l (k + 1) := by
  refine ⟨fun j g hj hg => ?_, fun j g g' hj hg hg' => ?_⟩
  · rcases Nat.lt_or_ge j k with hjk | hjk
    · exact h.1 j g hjk hg
    · obtain rfl : j = k := by omega
      rw [hf] at hg; injection hg with hg; subst hg
      exact ⟨h1, h2⟩
  · rcases Nat.lt_or_ge (j + 1) k with hjk | hjk
    · exact h.2 j g g' hjk hg hg'
    · obtain rfl : j + 1 = k := by omega
      rw [hf] at hg'; injection hg' with hg'; subst hg'
      exact h3 g (by omega) (by simpa using hg)

def LightPost (l : List F) (w : World) (e : Ending) (w' : World) : Prop := ∃ b, e = .returned (.bool b) ∧ (b = true → Lit l) ∧ ∃ k, w' = w.drewN k
def LightRel (l : List F) (w : World) (n : Nat) (i : Value) (wr : World) : Prop := ∃ k : Nat, k ≤ n ∧ i = .int .i64 k ∧ LitTo l k ∧ ∃ q, wr = w.drewN q

set_option maxHeartbeats 2000000 in
set_option maxRecDepth 100000 in
theorem light_any (A : Option Addr) (n c : Nat) (l : List F) (w : World) (h : RdF w w.heap.size A n c l) :
    Calls Try.prog 5 #[.slice A n c] w (LightPost l w) := by
  have hm := h.2.2.1
  have hnc := h.2.1
  unfold maxLen at hm
  have HR := Lib.hid h
  clear h
  by_cases h24 : 24 < n
  · have hd : (24 : Int) < (n : Int) := by omega
    go_enter Try.func5, Try.ntmps5
    go_wp2
    go_ret
    exact ⟨false, rfl, by simp, 0, rfl⟩
  · have hd : decide ((24 : Int) < (n : Int)) = false := decide_eq_false (by omega)
    go_enter Try.func5, Try.ntmps5
    go_wp2
    go_loopw [3] (fun i wr => LightRel l w n i wr) (fun i _ => n - (intOf i).toNat)
    case atStart => exact ⟨0, Nat.zero_le _, rfl, LitTo.zero l, 0, rfl⟩
    case round =>
      obtain ⟨k, hk, rfl, hlit, q, rfl⟩ := hrel
      have HT := Lib.hid hlit
      clear hlit
      by_cases hlt : k < n
      · have hil : k < l.length := by rw [HR.out.1]; exact hlt
        obtain ⟨f, hf⟩ : ∃ f, l[k]? = some f := ⟨_, List.getElem?_eq_getElem hil⟩
        obtain ⟨b, off, rfl, hcells⟩ := HR.out.cells (by omega)
        obtain ⟨_, hcells⟩ := hcells
        have hc1 := (hcells k f hf).1
        have hc2 := (hcells k f hf).2
        have HF := Lib.hid hf
        have HC := Lib.hid hcells
        clear hf hcells hil
        obtain ⟨x, t⟩ := f
        have hiz : (k : Int) < (n : Int) := by omega
        by_cases h1 : 20 < x.size
        · have t1 : (20 : Int) < (x.size : Int) := by omega
          go_wp2
          go_quiet (fail)
          go_wp2
          go_ret
          exact ⟨false, rfl, by simp, (by first | exact ⟨_, rfl⟩ | exact ⟨_, World.drewN_drewN _ _ _⟩)⟩
        · have t1 : decide ((20 : Int) < (x.size : Int)) = false := decide_eq_false (by omega)
          by_cases h2 : 60 < t.size
          · have t2 : (60 : Int) < (t.size : Int) := by omega
            go_wp2
            go_quiet (fail)
            go_wp2
            go_ret
            exact ⟨false, rfl, by simp, (by first | exact ⟨_, rfl⟩ | exact ⟨_, World.drewN_drewN _ _ _⟩)⟩
          · have t2 : decide ((60 : Int) < (t.size : Int)) = false := decide_eq_false (by omega)
            by_cases h3 : 0 < k
            · obtain ⟨g, hg⟩ : ∃ g, l[k - 1]? = some g := ⟨_, List.getElem?_eq_getElem (by rw [HR.out.1]; omega)⟩
              have hc3 := (HC.out (k - 1) g hg).1
              have HG := Lib.hid hg
              clear hg
              obtain ⟨y, u⟩ := g
              have t3 : (0 : Int) < (k : Int) := by omega
              obtain ⟨k, rfl⟩ : ∃ k', k = k' + 1 := ⟨k - 1, by omega⟩
              rw [show k + 1 - 1 = k by omega] at hc3
              have hkz : (k : Int) < (n : Int) := by omega
              cases h4 : (Op.bytesLess x.toList y.toList || x.toList == y.toList) with
              | true =>
                go_wp2
                go_quiet (fail)
                go_wp2
                go_ret
                exact ⟨false, rfl, by simp, (by first | exact ⟨_, rfl⟩ | exact ⟨_, World.drewN_drewN _ _ _⟩)⟩
              | false =>
                go_wp2
                go_quiet (fail)
                go_wp2
                go_roundw
                case rel =>
                  refine ⟨k + 1 + 1, by omega, by go_num, HT.out.next HF.out (by simp; omega) (by simp; omega) (fun g _ hg => ?_), (by first | exact ⟨_, rfl⟩ | exact ⟨_, World.drewN_drewN _ _ _⟩)⟩
                  have e1 := HG.out
                  rw [e1] at hg
                  injection hg with hg
                  subst hg
                  simp only [Bool.or_eq_false_iff] at h4
                  show lt y x = true
                  cases h5 : lt y x with
                  | true => rfl
                  | false =>
                    have e2 := lt_tri (a := x) (b := y) h4.1 h5
                    have e3 := h4.2
                    rw [e2] at e3
                    simp at e3
                case measure => simp [intOf]; omega
            · have t3 : decide ((0 : Int) < (k : Int)) = false := decide_eq_false (by omega)
              go_wp2
              go_quiet (fail)
              go_wp2
              go_roundw
              case rel => exact ⟨k + 1, by omega, by go_num, HT.out.next HF.out (by simp; omega) (by simp; omega) (fun g hg => absurd hg h3), (by first | exact ⟨_, rfl⟩ | exact ⟨_, World.drewN_drewN _ _ _⟩)⟩
              case measure => simp [intOf]; omega
      · obtain rfl : k = n := by omega
        go_wp2
        go_ret
        exact ⟨true, rfl, fun _ => LitTo.all (by rw [HR.out.1]; exact HT.out) (by rw [HR.out.1]; omega), (by first | exact ⟨_, rfl⟩ | exact ⟨_, World.drewN_drewN _ _ _⟩)⟩

def SameRel (w : World) (n : Nat) (i : Value) (wr : World) : Prop := ∃ k : Nat, k ≤ n ∧ i = .int .i64 k ∧ ∃ q, wr = w.drewN q

set_option maxHeartbeats 2000000 in
set_option maxRecDepth 100000 in
/-- hammerpondref.SameFiles of two slices that read as the same files. -/
theorem same_any (A A' : Option Addr) (n c c' : Nat) (l : List F) (w : World) (h : RdF w w.heap.size A n c l) (h' : RdF w w.heap.size A' n c' l) :
    Calls Try.prog 30 #[.slice A n c, .slice A' n c'] w fun e w' => e = .returned (.bool true) ∧ ∃ k, w' = w.drewN k := by
  have hm := h.2.2.1
  have hnc := h.2.1
  unfold maxLen at hm
  have HR := Lib.hid h
  have HR' := Lib.hid h'
  clear h h'
  go_enter Try.func30, Try.ntmps30
  go_wp2
  go_loopw [5] (fun i wr => SameRel w n i wr) (fun i _ => n - (intOf i).toNat)
  case atStart => exact ⟨0, Nat.zero_le _, rfl, 0, rfl⟩
  case round =>
    obtain ⟨k, hk, rfl, q, rfl⟩ := hrel
    by_cases hlt : k < n
    · obtain ⟨f, hf⟩ : ∃ f, l[k]? = some f := ⟨_, List.getElem?_eq_getElem (by rw [HR.out.1]; exact hlt)⟩
      obtain ⟨b, off, rfl, hbb, hc1, hc2⟩ := HR.out.at_ hf
      obtain ⟨b', off', rfl, hbb', hc1', hc2'⟩ := HR'.out.at_ hf
      clear hf
      obtain ⟨x, t⟩ := f
      have hiz : (k : Int) < (n : Int) := by omega
      go_wp2
      go_quiet (fail)
      go_wp2
      go_roundw
      case rel => exact ⟨k + 1, by omega, by go_num, by first | exact ⟨_, rfl⟩ | exact ⟨_, World.drewN_drewN _ _ _⟩⟩
      case measure => simp [intOf]; omega
    · obtain rfl : k = n := by omega
      go_wp2
      go_ret
      exact ⟨rfl, _, rfl⟩
end Go.Proofs.Ytlkpbpecgdphaaa
