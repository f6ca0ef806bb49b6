/-
  WALKS: the writer behind strings.genericReplacer.Replace: getStringWriter, appendSliceWriter.WriteString.
-/
import Derived.Test.YtocodapegeajoaaLookup
import Derived.Lib.AppendStr
import Derived.Laws.IdiomStrings
import Derived.Lib.Builder
namespace Go.Proofs.Ytocodapegeajoaa
open Go.RowKit

abbrev tW : TypeId := 201
abbrev tB : TypeId := 5
/-- The writer at block a has the bytes t so far; its row lies at B or above. -/
def WrAt (w : World) (B a : Nat) (t : ByteArray) : Prop :=
  B ≤ a ∧ ∃ v, Blk w a tW #[v] ∧ w.ownsRow B tB 1 v t.size (Lib.strCells t)
theorem strCells_append (a b : ByteArray) : Lib.strCells (a ++ b) = Lib.strCells a ++ Lib.strCells b := by simp [Lib.strCells]
theorem WrAt.drewN {w : World} {B a : Nat} {t : ByteArray} (h : WrAt w B a t) (n : Nat) : WrAt (w.drewN n) B a t := by
  obtain ⟨h1, v, h2, h3⟩ := h
  exact ⟨h1, v, by unfold Blk at h2 ⊢; simpa using h2, h3.1, by simpa using h3.2⟩
theorem own_ne {w : World} {B a n : Nat} {v : Value} {xs : List Value} {cs : Array Value} (h : w.ownsRow B tB 1 v n xs) (hb : Blk w a tW cs) : v.ownBlock ≠ some a := by
  have := Lib.ownBlock_ne h hb (by decide)
  exact this
theorem own_shape {w : World} {B : Nat} {e : TypeId} {z : Nat} {v : Value} {n : Nat} {xs : List Value} (h : w.ownsRow B e z v n xs) : ∃ A c, v = .slice A n c := by
  rcases h.2 with ⟨rfl, rfl⟩ | ⟨g, cap, cur, rfl, _⟩
  · exact ⟨_, _, rfl⟩
  · exact ⟨_, _, rfl⟩
theorem Blk.grown {w w' : World} {b : Nat} {t : TypeId} {cs : Array Value} {row : Option Nat} (h : Blk w b t cs) (hg : w.grownBy w' row) (hn : row ≠ some b) : Blk w' b t cs := (hg.block b h.lt (fun e => hn e.symm)).trans h
set_option maxRecDepth 100000 in
theorem getw_any (a : Nat) (w : World) : Calls Try.prog 140 #[.iface 202 (ptr a)] w fun e w' => e = .returned (.iface 202 (ptr a)) ∧ w = w' := by
  have has : ∀ (v : Value) (w : World), (Instr.typeAssert (.iface 202 v) 204 206 true).run Try.prog w = .ok (.tuple #[.iface 202 v, .bool true]) w := fun v w => by kernel_rfl
  go_enter Try.func140, Try.ntmps140
  go_wp2
  go_ret
  exact ⟨rfl, rfl⟩
set_option maxRecDepth 100000 in
set_option maxHeartbeats 1600000 in
theorem wrs_any (B a : Nat) (t s : ByteArray) (w : World) (h : WrAt w B a t) (hn : t.size + s.size ≤ 1000000000) (hB : B ≤ w.heap.size) :
    Calls Try.prog 152 #[ptr a, .string s] w fun e w' => e = .returned (.tuple #[.int .i64 s.size, .nilIface]) ∧ WrAt w' B a (t ++ s) ∧ Below B w w' := by
  obtain ⟨hBa, v, hb, ho⟩ := h
  have hne := own_ne ho hb
  have c0 : w.cell? ⟨a, 0, none⟩ = some v := hb.cell 0
  have HB := Lib.hid hb
  have HO := Lib.hid ho
  have HN := Lib.hid hne
  clear hb ho hne
  go_enter Try.func152, Try.ntmps152
  go_wp2_with (refine Lib.wpList_append_own_string _ rfl (.tmp 9) (.tmp 10) tW 9 rfl B tB Try.t5 Try.underlying201 Try.underlying9 (by kernel_rfl) (by kernel_rfl) (by kernel_rfl) (by kernel_rfl) v t.size (Lib.strCells t) rfl HO.out s rfl (by unfold maxLen; omega) (by omega) hB ?_; intro v2 w2 ho2 hg2 _; obtain ⟨A2, k2, rfl⟩ := own_shape ho2; have HO2 := Lib.hid ho2; have HG2 := Lib.hid hg2; have HB2 := Lib.hid (HB.out.grown hg2 HN.out); have c2 : w2.cell? ⟨a, 0, none⟩ = some v := HB2.out.cell 0; have f2 := HB2.out.free 0; clear ho2 hg2)
  go_ret2
  have hne2 := own_ne HO2.out HB2.out
  have ho3 : (w2.setCell ⟨a, 0, none⟩ (.slice A2 (t.size + s.size) k2)).ownsRow B tB 1 (.slice A2 (t.size + s.size) k2) (t.size + s.size) (Lib.strCells t ++ Lib.strCells s) := HO2.out.kept (row := some a) ⟨rfl, rfl, rfl, by simp [World.setCell], fun k hk hn => Below.heap_setCell _ _ _ _ (fun e => hn (by rw [show k = a from e]))⟩ (.inr hne2)
  refine ⟨rfl, ⟨hBa, _, HB2.out.set 0 _, ?_⟩, ?_⟩
  · rw [strCells_append, ByteArray.size_append]; exact ho3
  · exact ((Below.refl B w).grown HG2.out hB (fun g' hg' => (HO.out.lt g' hg').1)).setCell (by simpa using hBa) _
end Go.Proofs.Ytocodapegeajoaa
