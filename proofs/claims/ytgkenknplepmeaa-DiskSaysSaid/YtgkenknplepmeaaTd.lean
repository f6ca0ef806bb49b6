/-
  WORDS for TopDisk: a disk of four sectors that is neither armed nor down.
-/
import Derived.Test.YtgkenknplepmeaaDkW
import Derived.Test.YtgkenknplepmeaaDkF
import Derived.Test.YtgkenknplepmeaaDkR
import Derived.Test.YtgkenknplepmeaaDeeds
namespace Go.Proofs.Ytgkenknplepmeaa
open Go.RowKit

/-- Neither armed nor down. -/
structure Good (D : Dk) : Prop where
  left : D.left = -1
  down : D.down = false
/-- The numbers of the writes that wait lie below the next one; at most b of them at a sector. -/
structure Low (D : Dk) (b : Nat) : Prop where
  next : D.next ≤ b
  bit : ∀ i, i < D.n → ∀ x ∈ (D.sec i).ws, x.1 < D.next
  len : ∀ i, i < D.n → (D.sec i).ws.length ≤ b
theorem Good.step {D : Dk} (h : Good D) : stepR D = (D, 0) := by
  unfold stepR
  rw [if_neg (by rintro (e | e); rw [h.left] at e; omega; rw [h.down] at e; cases e), if_neg (by rw [h.left]; omega)]
theorem Good.range {D : Dk} (h : Good D) : -9223372036854775808 ≤ D.left ∧ D.left ≤ 9223372036854775807 := by rw [h.left]; omega
theorem Good.flush {D : Dk} (h : Good D) : flushR D = (settleR allK D, 0) := by unfold flushR; rw [h.step]; rfl
theorem Good.settled {D : Dk} (h : Good D) (keep : Nat) : Good (settleR keep D) := ⟨h.left, h.down⟩
theorem Low.settled (D : Dk) (keep b : Nat) : Low (settleR keep D) b := ⟨Nat.zero_le _, fun i _ x hx => (by cases hx), fun i _ => Nat.zero_le _⟩
theorem good_restart (keep : Nat) (D : Dk) : Good (restartR keep D) := ⟨rfl, rfl⟩
theorem Good.read {D : Dk} (h : Good D) {k : Nat} (hk : k < D.n) : readR D k = (nowB (D.sec k), 0) := by
  unfold readR
  rw [h.down, if_neg (by simp), if_pos]
  · rfl
  · unfold hasR; rw [decide_eq_true (by omega), decide_eq_true (by omega)]; rfl
/-- What a write makes of the disk. -/
def putD (D : Dk) (k : Nat) (s : ByteArray) : Dk := { D with sec := updS D.sec k ⟨(D.sec k).dur, (D.sec k).ws ++ [(D.next, padB s)]⟩, next := (D.next + 1) % 64 }
theorem Good.write {D : Dk} (h : Good D) {k : Nat} {s : ByteArray} (hk : k < D.n) (hs : s.size ≤ 340) : writeR D k s = (putD D k s, 0) := by
  unfold writeR
  have hh : hasR D k = true := by unfold hasR; rw [decide_eq_true (by omega), decide_eq_true (by omega)]; rfl
  rw [if_neg (by rintro (e | e); rw [hh] at e; cases e; omega), h.step, if_neg (by simp)]
  rfl
theorem Good.put {D : Dk} (h : Good D) (k : Nat) (s : ByteArray) : Good (putD D k s) := ⟨h.left, h.down⟩
theorem Low.put {D : Dk} {b : Nat} (h : Low D b) (hb : b < 63) {k : Nat} (hk : k < D.n) (s : ByteArray) : Low (putD D k s) (b + 1) ∧ (putD D k s).next = D.next + 1 := by
  have hn := h.next
  have e : (D.next + 1) % 64 = D.next + 1 := Nat.mod_eq_of_lt (by omega)
  refine ⟨⟨by show (D.next + 1) % 64 ≤ b + 1; omega, fun i hi x hx => ?_, fun i hi => ?_⟩, e⟩
  · show x.1 < (D.next + 1) % 64
    rw [e]
    by_cases hik : i = k
    · subst hik
      simp only [putD, updS, if_true] at hx
      rcases List.mem_append.1 hx with h1 | h1
      · have := h.bit i hi x h1; omega
      · rw [List.mem_singleton] at h1; subst h1; show D.next < D.next + 1; omega
    · simp only [putD, updS, if_neg hik] at hx
      have := h.bit i hi x hx; omega
  · by_cases hik : i = k
    · subst hik
      simp only [putD, updS, if_true, List.length_append]
      have := h.len i hi
      show _ + 1 ≤ b + 1
      omega
    · simp only [putD, updS, if_neg hik]
      have := h.len i hi; omega
theorem Low.mono {D : Dk} {b b' : Nat} (h : Low D b) (hb : b ≤ b') : Low D b' := ⟨Nat.le_trans h.next hb, h.bit, fun i hi => Nat.le_trans (h.len i hi) hb⟩
/-- What stays of sector i. -/
def stay (keep : Nat) (D : Dk) (i : Nat) : ByteArray := keepB keep (D.sec i).dur (D.sec i).ws
theorem stay_put (keep : Nat) (D : Dk) (k : Nat) (s : ByteArray) (i : Nat) : stay keep (putD D k s) i = if i = k ∧ keep.testBit D.next = true then padB s else stay keep D i := by
  unfold stay putD updS
  dsimp only
  by_cases e : i = k
  · subst e
    simp only [if_true, true_and]
    rw [keepB_snoc]
  · rw [if_neg e, if_neg (fun h => e h.1)]
theorem now_put (D : Dk) (k : Nat) (s : ByteArray) : nowB ((putD D k s).sec k) = padB s := by
  unfold nowB putD updS
  simp
theorem now_settled (keep : Nat) (D : Dk) (i : Nat) : nowB ((settleR keep D).sec i) = stay keep D i := rfl
theorem stay_settled (keep k2 : Nat) (D : Dk) (i : Nat) : stay keep (settleR k2 D) i = nowB ((settleR k2 D).sec i) := rfl
theorem now_restart (keep : Nat) (D : Dk) (i : Nat) : nowB ((restartR keep D).sec i) = stay keep D i := rfl

def WcPost (base p B : Nat) (D : Dk) (a : Int) (s : ByteArray) (w : World) (e : Ending) (w' : World) : Prop :=
  (e = .returned (erV 1) ∧ (hasR D a = false ∨ 340 < s.size) ∧ w = w') ∨ (∃ k : Nat, a = k ∧ k < D.n ∧ s.size ≤ 340 ∧ e = .returned .nilIface ∧ (∃ V', DkAt w' base p B V' (putD D k s)) ∧ Below base w w' ∧ Ty w w')
/-- Write, of a good disk. -/
theorem wcall_any (base p B b : Nat) (V : Nat → Value) (D : Dk) (a : Int) (s : ByteArray) (w : World) (h : DkAt w base p B V D) (hg : Good D) (hl : Low D b) (hb : b < 63) (hs : s.size ≤ 1000000) :
    Calls Try.prog 18 #[ptr p, .int .i64 a, .string s] w (WcPost base p B D a s w) := by
  by_cases hc : hasR D a = false ∨ 340 < s.size
  · refine (write_bad base p B V D a s w h hs hc).mono ?_
    rintro e w' ⟨rfl, rfl⟩
    exact .inl ⟨rfl, hc, rfl⟩
  · have h1 : hasR D a = true := by cases hh : hasR D a with
      | false => exact absurd (.inl hh) hc
      | true => rfl
    have h2 : s.size ≤ 340 := by rcases Nat.lt_or_ge 340 s.size with h | h; exact absurd (.inr h) hc; exact h
    unfold hasR at h1
    rw [Bool.and_eq_true, decide_eq_true_eq, decide_eq_true_eq] at h1
    obtain ⟨k, rfl⟩ : ∃ k : Nat, a = k := ⟨a.toNat, by omega⟩
    have hk : k < D.n := by omega
    refine (write_good base p B k V D s w h h2 hk hg.range (fun x hx => by have := hl.bit k hk x hx; omega) (by have := hl.len k hk; omega)).mono ?_
    rintro e w' ⟨rfl, hd, hbl, hty⟩
    rw [hg.write hk h2] at hd ⊢
    exact .inr ⟨k, rfl, hk, h2, rfl, hd, hbl, hty⟩
/-- A block that is none of the disk's is written: the disk stands. -/
theorem DkAt.other {w w' : World} {base p B T : Nat} {V : Nat → Value} {D : Dk} {t : TypeId} {cs : Array Value} (h : DkAt w base p B V D) (hT : Blk w T t cs) (h1 : t ≠ tDk) (h2 : t ≠ tSe) (h3 : t ≠ tWt) (hk : ∀ g, g < w.heap.size → g ≠ T → w'.heap[g]? = w.heap[g]?) : DkAt w' base p B V D := by
  obtain ⟨c2, hb, hz⟩ := h.se
  have np : p ≠ T := fun e => by subst e; exact hT.ne h.dk h1 rfl
  have nB : B ≠ T := fun e => by subst e; exact hT.ne hb h2 rfl
  have eB := hk B h.ltB nB
  exact ⟨h.hp, h.hB, (hk p h.ltp np).trans h.dk, ⟨c2, eB.trans hb, hz⟩, fun i hi => rangeAt_block (h.row i hi) eB,
    fun i hi => ownsRow_block (h.own i hi) (fun g hg => hk g (h.Vlt hi hg).2 (fun e => own_block_ne (h.own i hi) hT h3 (by rw [hg, e]))), h.sep, h.szd, h.szw, h.n1, h.n2, h.nx⟩
/-- The array of four texts. -/
def arr4 (f : Nat → ByteArray) : Array Value := #[.string (f 0), .string (f 1), .string (f 2), .string (f 3)]
def upf (f : Nat → ByteArray) (k : Nat) (s : ByteArray) : Nat → ByteArray := fun j => if j = k then s else f j
theorem arr4_at (f : Nat → ByteArray) (k : Nat) (h : k < 4) : (arr4 f)[k]? = some (.string (f k)) := by
  rcases k with _ | _ | _ | _ | k
  · rfl
  · rfl
  · rfl
  · rfl
  · omega
theorem arr4_set (f : Nat → ByteArray) (k : Nat) (h : k < 4) (s : ByteArray) : (arr4 f).setIfInBounds k (.string s) = arr4 (upf f k s) := by
  rcases k with _ | _ | _ | _ | k
  · rfl
  · rfl
  · rfl
  · rfl
  · omega
end Go.Proofs.Ytgkenknplepmeaa
