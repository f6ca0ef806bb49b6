/-
  WALK: strings.genericReplacer.lookup over the replacer of expand.Auto.
-/
import Derived.Test.YtocodapegeajoaaGen
import Derived.Test.YtocodapegeajoaaMax
namespace Go.Proofs.Ytocodapegeajoaa
open Go.RowKit

/-- Which text stands for a letter behind a dollar. -/
def autoV (v0 v1 v2 v3 : ByteArray) (c : UInt8) : Option ByteArray :=
  if c = 64 then some v0 else if c = 60 then some v1 else if c = 94 then some v2 else if c = 42 then some v3 else none
/-- What lookup finds at the head of a text. -/
def lookR (v0 v1 v2 v3 : ByteArray) (s : ByteArray) : Option ByteArray :=
  if h : 2 ≤ s.size then (if s[0] = 36 then autoV v0 v1 v2 v3 s[1] else none) else none
def lookV (r : Option ByteArray) : Value := match r with
  | some v => .tuple #[.string v, .int .i64 2, .bool true]
  | none => .tuple #[.string ⟨#[]⟩, .int .i64 0, .bool false]
/-- The replacer as it stands in memory. -/
structure RepOk (w : World) (G : Nat) (v0 v1 v2 v3 : ByteArray) : Prop where
  gen : Blk w G tG (gC (tab (G + 1)) 5 mp5)
  t0 : Blk w (G + 1) tP #[ptr (G + 2), noP, noP, noP, noP]
  nd : Blk w (G + 2) tN #[noS, .int .i64 0, noS, noP, tab (G + 5)]
  n0 : Blk w (G + 3) tN (leaf v0 8)
  n1 : Blk w (G + 4) tN (leaf v1 6)
  t1 : Blk w (G + 5) tP #[noP, ptr (G + 7), ptr (G + 4), ptr (G + 3), ptr (G + 6)]
  n2 : Blk w (G + 6) tN (leaf v2 4)
  n3 : Blk w (G + 7) tN (leaf v3 2)
section
variable {w w' : World} {G : Nat} {v0 v1 v2 v3 : ByteArray}
theorem AdSt.rep {wr : World} (h : AdSt w wr v0 v1 v2 v3 4) : RepOk wr w.heap.size v0 v1 v2 v3 := by
  obtain ⟨_, b1, b2, b3, b4, b5, b6, b7⟩ := h.st
  exact ⟨h.gen, b1, b2, b3, b4, b5, b6, b7⟩
theorem RepOk.keep (h : RepOk w G v0 v1 v2 v3) (hk : ∀ k, G ≤ k → k < G + 8 → w'.heap[k]? = w.heap[k]?) : RepOk w' G v0 v1 v2 v3 :=
  ⟨(hk _ (by omega) (by omega)).trans h.gen, (hk _ (by omega) (by omega)).trans h.t0, (hk _ (by omega) (by omega)).trans h.nd, (hk _ (by omega) (by omega)).trans h.n0, (hk _ (by omega) (by omega)).trans h.n1, (hk _ (by omega) (by omega)).trans h.t1, (hk _ (by omega) (by omega)).trans h.n2, (hk _ (by omega) (by omega)).trans h.n3⟩
theorem RepOk.map (h : RepOk w G v0 v1 v2 v3) (x : Nat) (hx : x < 256) : w.cell? ⟨G, 6 + x, none⟩ = some (.int .u8 (mp5 x)) := (h.gen.cell _).trans (gC_at _ _ _ _ hx)
end
/-- Which leaf a letter behind a dollar leads to. -/
theorem RepOk.leaf_of {w : World} {G : Nat} {v0 v1 v2 v3 : ByteArray} (h : RepOk w G v0 v1 v2 v3) {c : UInt8} {v : ByteArray} (hv : autoV v0 v1 v2 v3 c = some v) :
    ∃ (m N : Nat) (p : Int), mp5 c.toNat = m ∧ m < 5 ∧ 0 < p ∧ w.cell? ⟨G + 5, m, none⟩ = some (ptr N) ∧ N ≠ G ∧ Blk w N tN (leaf v p) := by
  unfold autoV at hv
  split at hv
  · rename_i e; obtain rfl := Option.some.inj hv; exact ⟨3, G + 3, 8, by rw [e]; exact mp5_36.2.2.2.1, by omega, by omega, h.t1.cell 3, by omega, h.n0⟩
  · split at hv
    · rename_i e; obtain rfl := Option.some.inj hv; exact ⟨2, G + 4, 6, by rw [e]; exact mp5_36.2.2.1, by omega, by omega, h.t1.cell 2, by omega, h.n1⟩
    · split at hv
      · rename_i e; obtain rfl := Option.some.inj hv; exact ⟨4, G + 6, 4, by rw [e]; exact mp5_36.2.2.2.2, by omega, by omega, h.t1.cell 4, by omega, h.n2⟩
      · split at hv
        · rename_i e; obtain rfl := Option.some.inj hv; exact ⟨1, G + 7, 2, by rw [e]; exact mp5_36.2.1, by omega, by omega, h.t1.cell 1, by omega, h.n3⟩
        · cases hv
theorem mp5_lt (x : Nat) (h : x < 256) : ∃ m : Nat, mp5 x = m ∧ m ≤ 5 ∧ (m = 0 → x = 36) ∧ (m = 5 → x ∉ sq) := by
  by_cases hx : x ∈ sq
  · have hall : ∀ y ∈ sq, ∃ m : Nat, mp5 y = m ∧ m ≤ 5 ∧ (m = 0 → y = 36) ∧ (m = 5 → y ∉ sq) := by
      intro y hy
      simp only [sq, List.mem_cons, List.not_mem_nil, or_false] at hy
      rcases hy with rfl | rfl | rfl | rfl | rfl | rfl | rfl | rfl
      · exact ⟨0, mp5_36.1, by omega, fun _ => rfl, fun h => by omega⟩
      · exact ⟨3, mp5_36.2.2.2.1, by omega, fun h => by omega, fun h => by omega⟩
      · exact ⟨0, mp5_36.1, by omega, fun _ => rfl, fun h => by omega⟩
      · exact ⟨2, mp5_36.2.2.1, by omega, fun h => by omega, fun h => by omega⟩
      · exact ⟨0, mp5_36.1, by omega, fun _ => rfl, fun h => by omega⟩
      · exact ⟨4, mp5_36.2.2.2.2, by omega, fun h => by omega, fun h => by omega⟩
      · exact ⟨0, mp5_36.1, by omega, fun _ => rfl, fun h => by omega⟩
      · exact ⟨1, mp5_36.2.1, by omega, fun h => by omega, fun h => by omega⟩
    exact hall x hx
  · exact ⟨5, mp5_other x h hx, by omega, fun h => by omega, fun _ => hx⟩
theorem autoV_none {v0 v1 v2 v3 : ByteArray} {c : UInt8} (h : autoV v0 v1 v2 v3 c = none) : c.toNat = 36 ∨ c.toNat ∉ sq := by
  unfold autoV at h
  by_cases h36 : c.toNat = 36
  · exact .inl h36
  · refine .inr (fun hm => ?_)
    simp only [sq, List.mem_cons, List.not_mem_nil, or_false] at hm
    have key : ∀ d : UInt8, c.toNat = d.toNat → c = d := fun d e => UInt8.toNat_inj.1 e
    rcases hm with e | e | e | e | e | e | e | e
    · exact h36 e
    · rw [key 64 e] at h; simp at h
    · exact h36 e
    · rw [key 60 e] at h; simp at h
    · exact h36 e
    · rw [key 94 e] at h; simp at h
    · exact h36 e
    · rw [key 42 e] at h; simp at h

/-- Where lookup's loop stands. -/
inductive LkSt (G : Nat) (v0 v1 v2 v3 : ByteArray) (s : ByteArray) (w : World) : Value → Value → Value → Value → Value → Value → Value → Prop
  | root : LkSt G v0 v1 v2 v3 s w (.string s) (.string ⟨#[]⟩) (.int .i64 0) (.bool false) (.int .i64 0) (ptr G) (.int .i64 0)
  | mid (h : 1 ≤ s.size) (h0 : s[0] = 36) : LkSt G v0 v1 v2 v3 s w (.string (s.extract 1 s.size)) (.string ⟨#[]⟩) (.int .i64 0) (.bool false) (.int .i64 0) (ptr (G + 2)) (.int .i64 1)
  | leaf (h : 2 ≤ s.size) (N : Nat) (p : Int) (v : ByteArray) (x : ByteArray) (hp : 0 < p) (hN : N ≠ G) (hv : lookR v0 v1 v2 v3 s = some v) (hb : Blk w N tN (leaf v p)) : LkSt G v0 v1 v2 v3 s w (.string x) (.string ⟨#[]⟩) (.int .i64 0) (.bool false) (.int .i64 0) (ptr N) (.int .i64 2)
  | off (x : Value) (n : Nat) (hn : n ≤ 2) (hv : lookR v0 v1 v2 v3 s = none) : LkSt G v0 v1 v2 v3 s w x (.string ⟨#[]⟩) (.int .i64 0) (.bool false) (.int .i64 0) noP (.int .i64 n)
end Go.Proofs.Ytocodapegeajoaa
