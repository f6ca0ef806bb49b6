/-
  PLAIN FACTS: what reading a log comes to when an entry was added, or when the disk failed on the way.
-/
import Derived.Test.YtgkenknplepmeaaDkW
import Derived.Test.YtgkenknplepmeaaDkF
import Derived.Test.YtgkenknplepmeaaDkR
import Derived.Test.YtgkenknplepmeaaAp
import Derived.Test.YtgkenknplepmeaaLgJ
namespace Go.Proofs.Ytgkenknplepmeaa
open Go.RowKit

/-- Neither armed nor down. -/
structure Good (D : Dk) : Prop where
  left : D.left = -1
  down : D.down = false
/-- The numbers of the writes that wait lie below the next one; at most b of them at a sector. -/
structure Low (D : Dk) (b : Nat) : Prop where
  next : D.next ≤ b
  bit : ∀ i, i < D.n → ∀ x ∈ (D.sec i).ws, x.1 < D.next
  len : ∀ i, i < D.n → (D.sec i).ws.length ≤ b
theorem Good.step {D : Dk} (h : Good D) : stepR D = (D, 0) := by
  unfold stepR
  rw [if_neg (by rintro (e | e); rw [h.left] at e; omega; rw [h.down] at e; cases e), if_neg (by rw [h.left]; omega)]
theorem Good.range {D : Dk} (h : Good D) : -9223372036854775808 ≤ D.left ∧ D.left ≤ 9223372036854775807 := by rw [h.left]; omega
theorem Good.flush {D : Dk} (h : Good D) : flushR D = (settleR allK D, 0) := by unfold flushR; rw [h.step]; rfl
theorem Good.settled {D : Dk} (h : Good D) (keep : Nat) : Good (settleR keep D) := ⟨h.left, h.down⟩
theorem Low.settled (D : Dk) (keep b : Nat) : Low (settleR keep D) b := ⟨Nat.zero_le _, fun i _ x hx => (by cases hx), fun i _ => Nat.zero_le _⟩
theorem good_restart (keep : Nat) (D : Dk) : Good (restartR keep D) := ⟨rfl, rfl⟩
theorem Good.read {D : Dk} (h : Good D) {k : Nat} (hk : k < D.n) : readR D k = (nowB (D.sec k), 0) := by
  unfold readR
  rw [h.down, if_neg (by simp), if_pos]
  · rfl
  · unfold hasR; rw [decide_eq_true (by omega), decide_eq_true (by omega)]; rfl
/-- What a write makes of the disk. -/
def putD (D : Dk) (k : Nat) (s : ByteArray) : Dk := { D with sec := updS D.sec k ⟨(D.sec k).dur, (D.sec k).ws ++ [(D.next, padB s)]⟩, next := (D.next + 1) % 64 }
theorem Good.write {D : Dk} (h : Good D) {k : Nat} {s : ByteArray} (hk : k < D.n) (hs : s.size ≤ 340) : writeR D k s = (putD D k s, 0) := by
  unfold writeR
  have hh : hasR D k = true := by unfold hasR; rw [decide_eq_true (by omega), decide_eq_true (by omega)]; rfl
  rw [if_neg (by rintro (e | e); rw [hh] at e; cases e; omega), h.step, if_neg (by simp)]
  rfl
theorem Good.put {D : Dk} (h : Good D) (k : Nat) (s : ByteArray) : Good (putD D k s) := ⟨h.left, h.down⟩
theorem Low.put {D : Dk} {b : Nat} (h : Low D b) (hb : b < 63) {k : Nat} (hk : k < D.n) (s : ByteArray) : Low (putD D k s) (b + 1) ∧ (putD D k s).next = D.next + 1 := by
  have hn := h.next
  have e : (D.next + 1) % 64 = D.next + 1 := Nat.mod_eq_of_lt (by omega)
  refine ⟨⟨by show (D.next + 1) % 64 ≤ b + 1; omega, fun i hi x hx => ?_, fun i hi => ?_⟩, e⟩
  · show x.1 < (D.next + 1) % 64
    rw [e]
    by_cases hik : i = k
    · subst hik
      simp only [putD, updS, if_true] at hx
      rcases List.mem_append.1 hx with h1 | h1
      · have := h.bit i hi x h1; omega
      · rw [List.mem_singleton] at h1; subst h1; show D.next < D.next + 1; omega
    · simp only [putD, updS, if_neg hik] at hx
      have := h.bit i hi x hx; omega
  · by_cases hik : i = k
    · subst hik
      simp only [putD, updS, if_true, List.length_append]
      have := h.len i hi
      show _ + 1 ≤ b + 1
      omega
    · simp only [putD, updS, if_neg hik]
      have := h.len i hi; omega
theorem Low.mono {D : Dk} {b b' : Nat} (h : Low D b) (hb : b ≤ b') : Low D b' := ⟨Nat.le_trans h.next hb, h.bit, fun i hi => Nat.le_trans (h.len i hi) hb⟩
/-- What stays of sector i. -/
def stay (keep : Nat) (D : Dk) (i : Nat) : ByteArray := keepB keep (D.sec i).dur (D.sec i).ws
theorem stay_put (keep : Nat) (D : Dk) (k : Nat) (s : ByteArray) (i : Nat) : stay keep (putD D k s) i = if i = k ∧ keep.testBit D.next = true then padB s else stay keep D i := by
  unfold stay putD updS
  dsimp only
  by_cases e : i = k
  · subst e
    simp only [if_true, true_and]
    rw [keepB_snoc]
  · rw [if_neg e, if_neg (fun h => e h.1)]
theorem now_put (D : Dk) (k : Nat) (s : ByteArray) : nowB ((putD D k s).sec k) = padB s := by
  unfold nowB putD updS
  simp
theorem now_settled (keep : Nat) (D : Dk) (i : Nat) : nowB ((settleR keep D).sec i) = stay keep D i := rfl
theorem stay_settled (keep k2 : Nat) (D : Dk) (i : Nat) : stay keep (settleR k2 D) i = nowB ((settleR k2 D).sec i) := rfl
theorem now_restart (keep : Nat) (D : Dk) (i : Nat) : nowB ((restartR keep D).sec i) = stay keep D i := rfl

def WcPost (base p B : Nat) (D : Dk) (a : Int) (s : ByteArray) (w : World) (e : Ending) (w' : World) : Prop :=
  (e = .returned (erV 1) ∧ (hasR D a = false ∨ 340 < s.size) ∧ w = w') ∨ (∃ k : Nat, a = k ∧ k < D.n ∧ s.size ≤ 340 ∧ e = .returned .nilIface ∧ (∃ V', DkAt w' base p B V' (putD D k s)) ∧ Below base w w' ∧ Ty w w')
/-- Write, of a good disk. -/
theorem wcall_any (base p B b : Nat) (V : Nat → Value) (D : Dk) (a : Int) (s : ByteArray) (w : World) (h : DkAt w base p B V D) (hg : Good D) (hl : Low D b) (hb : b < 63) (hs : s.size ≤ 1000000) :
    Calls Try.prog 18 #[ptr p, .int .i64 a, .string s] w (WcPost base p B D a s w) := by
  by_cases hc : hasR D a = false ∨ 340 < s.size
  · refine (write_bad base p B V D a s w h hs hc).mono ?_
    rintro e w' ⟨rfl, rfl⟩
    exact .inl ⟨rfl, hc, rfl⟩
  · have h1 : hasR D a = true := by cases hh : hasR D a with
      | false => exact absurd (.inl hh) hc
      | true => rfl
    have h2 : s.size ≤ 340 := by rcases Nat.lt_or_ge 340 s.size with h | h; exact absurd (.inr h) hc; exact h
    unfold hasR at h1
    rw [Bool.and_eq_true, decide_eq_true_eq, decide_eq_true_eq] at h1
    obtain ⟨k, rfl⟩ : ∃ k : Nat, a = k := ⟨a.toNat, by omega⟩
    have hk : k < D.n := by omega
    refine (write_good base p B k V D s w h h2 hk hg.range (fun x hx => by have := hl.bit k hk x hx; omega) (by have := hl.len k hk; omega)).mono ?_
    rintro e w' ⟨rfl, hd, hbl, hty⟩
    rw [hg.write hk h2] at hd ⊢
    exact .inr ⟨k, rfl, hk, h2, rfl, hd, hbl, hty⟩
/-- A block that is none of the disk's is written: the disk stands. -/
theorem DkAt.other {w w' : World} {base p B T : Nat} {V : Nat → Value} {D : Dk} {t : TypeId} {cs : Array Value} (h : DkAt w base p B V D) (hT : Blk w T t cs) (h1 : t ≠ tDk) (h2 : t ≠ tSe) (h3 : t ≠ tWt) (hk : ∀ g, g < w.heap.size → g ≠ T → w'.heap[g]? = w.heap[g]?) : DkAt w' base p B V D := by
  obtain ⟨c2, hb, hz⟩ := h.se
  have np : p ≠ T := fun e => by subst e; exact hT.ne h.dk h1 rfl
  have nB : B ≠ T := fun e => by subst e; exact hT.ne hb h2 rfl
  have eB := hk B h.ltB nB
  exact ⟨h.hp, h.hB, (hk p h.ltp np).trans h.dk, ⟨c2, eB.trans hb, hz⟩, fun i hi => rangeAt_block (h.row i hi) eB,
    fun i hi => ownsRow_block (h.own i hi) (fun g hg => hk g (h.Vlt hi hg).2 (fun e => own_block_ne (h.own i hi) hT h3 (by rw [hg, e]))), h.sep, h.szd, h.szw, h.n1, h.n2, h.nx⟩
/-- The array of four texts. -/
def arr4 (f : Nat → ByteArray) : Array Value := #[.string (f 0), .string (f 1), .string (f 2), .string (f 3)]
def upf (f : Nat → ByteArray) (k : Nat) (s : ByteArray) : Nat → ByteArray := fun j => if j = k then s else f j
theorem arr4_at (f : Nat → ByteArray) (k : Nat) (h : k < 4) : (arr4 f)[k]? = some (.string (f k)) := by
  rcases k with _ | _ | _ | _ | k
  · rfl
  · rfl
  · rfl
  · rfl
  · omega
theorem arr4_set (f : Nat → ByteArray) (k : Nat) (h : k < 4) (s : ByteArray) : (arr4 f).setIfInBounds k (.string s) = arr4 (upf f k s) := by
  rcases k with _ | _ | _ | _ | k
  · rfl
  · rfl
  · rfl
  · rfl
  · omega
end Go.Proofs.Ytgkenknplepmeaa
namespace Go.Proofs.Ytgkenknplepmeaa
open Go.RowKit Go.Sort

theorem allK_bit {k : Nat} (h : k < 64) : allK.testBit k = true := by
  have e : allK = 2 ^ 64 - 1 := by decide
  rw [e, Nat.testBit_two_pow_sub_one]
  exact decide_eq_true h
theorem stay_all {D : Dk} {i : Nat} (h : ∀ x ∈ (D.sec i).ws, x.1 < 64) : stay allK D i = nowB (D.sec i) := by
  unfold stay nowB
  rcases List.eq_nil_or_concat (D.sec i).ws with e | ⟨l, x, e⟩
  · rw [e]; rfl
  · rw [List.concat_eq_append] at e
    have hx : x.1 < 64 := h x (by rw [e]; simp)
    rw [e, keepB_snoc, if_pos (allK_bit hx), List.getLast?_concat]
theorem stay_flat {D : Dk} {i : Nat} (h : (D.sec i).ws = []) (keep : Nat) : stay keep D i = nowB (D.sec i) := by
  unfold stay nowB
  rw [h]; rfl
/-- The sectors are written. -/
structure WDone (D : Dk) (n : Nat) (ss : List ByteArray) (D' : Dk) : Prop where
  n_ : D'.n = D.n
  down : D'.down = false
  next : D'.next = 0
  left : -9223372036854775808 ≤ D'.left ∧ D'.left ≤ 9223372036854775807
  ws : ∀ i, (D'.sec i).ws = []
  out : ∀ i, i < D.n → (i < n ∨ n + ss.length ≤ i) → (D'.sec i).dur = nowB (D.sec i)
  in_ : ∀ j s, ss[j]? = some s → (D'.sec (n + j)).dur = padB s
/-- The disk failed on the way. -/
structure WFail (D : Dk) (n : Nat) (ss : List ByteArray) (D' : Dk) : Prop where
  n_ : D'.n = D.n
  out : ∀ i, (i < n ∨ n + ss.length ≤ i) → D'.sec i = D.sec i
  in_ : ∀ j s, ss[j]? = some s → D'.sec (n + j) = D.sec (n + j) ∨ ∃ b, D'.sec (n + j) = ⟨(D.sec (n + j)).dur, (D.sec (n + j)).ws ++ [(b, padB s)]⟩
theorem stepR_cases (D : Dk) : stepR D = ({ D with down := true }, 11) ∨ (D.down = false ∧ ∃ lf, stepR D = ({ D with left := lf }, 0)) := by
  unfold stepR
  split
  · exact .inl rfl
  · rename_i h
    refine .inr ⟨?_, _, rfl⟩
    cases hd : D.down with
    | true => exact absurd (.inr hd) h
    | false => rfl
theorem writeR_cases {D : Dk} {k : Nat} {s : ByteArray} (hk : k < D.n) (hs : s.size ≤ 340) : writeR D k s = ({ D with down := true }, 11) ∨
    (D.down = false ∧ ∃ lf, stepR D = ({ D with left := lf }, 0) ∧ writeR D k s = ({ D with left := lf, sec := updS D.sec k ⟨(D.sec k).dur, (D.sec k).ws ++ [(D.next, padB s)]⟩, next := (D.next + 1) % 64 }, 0)) := by
  have hh : hasR D k = true := by unfold hasR; rw [decide_eq_true (by omega), decide_eq_true (by omega)]; rfl
  unfold writeR
  rw [if_neg (by rintro (e | e); rw [hh] at e; cases e; omega)]
  rcases stepR_cases D with h | ⟨h0, lf, h⟩
  · rw [h, if_pos (by simp)]; exact .inl rfl
  · rw [h, if_neg (by simp)]; exact .inr ⟨h0, lf, rfl, rfl⟩
theorem wrL_spec : ∀ (ss : List ByteArray) (D : Dk) (n : Nat), n + ss.length ≤ D.n → (∀ s ∈ ss, s.size ≤ 340) → WOk D ss.length →
    ((wrL D n ss).2 = 0 ∧ WDone D n ss (wrL D n ss).1) ∨ ((wrL D n ss).2 = 11 ∧ WFail D n ss (wrL D n ss).1)
  | [], D, n, _, _, hw => by
    have hlf := stepR_left hw.left
    unfold wrL flushR
    rcases stepR_cases D with h | ⟨h0, lf, h⟩
    · rw [h, if_pos (by simp)]
      exact .inr ⟨rfl, rfl, fun i _ => rfl, fun j s hj => by simp at hj⟩
    · rw [h] at hlf
      rw [h, if_neg (by simp)]
      refine .inl ⟨rfl, rfl, h0, rfl, hlf, fun i => rfl, fun i hi _ => ?_, fun j s hj => by simp at hj⟩
      exact stay_all (D := D) fun x hx => by have := hw.bit i hi x hx; have := hw.next; omega
  | s :: r, D, n, hn, hs, hw => by
    have hs0 := hs s (by simp)
    have hk : n < D.n := by simp only [List.length_cons] at hn; omega
    have hw1 : (writeR D n s).2 = 0 → WOk (writeR D n s).1 r.length := fun h0 => hw.write hs0 hk h0
    unfold wrL
    rcases writeR_cases (s := s) hk hs0 with h | ⟨h0, lf, _, h⟩
    · rw [h, if_pos (by simp)]
      exact .inr ⟨rfl, rfl, fun i _ => rfl, fun j s hj => .inl rfl⟩
    · rw [h] at hw1
      rw [h, if_neg (by simp)]
      have ih := wrL_spec r { D with left := lf, sec := updS D.sec n ⟨(D.sec n).dur, (D.sec n).ws ++ [(D.next, padB s)]⟩, next := (D.next + 1) % 64 } (n + 1) (by simp only [List.length_cons] at hn; show n + 1 + r.length ≤ D.n; omega) (fun x hx => hs x (by simp [hx])) (hw1 rfl)
      rcases ih with ⟨e, hd⟩ | ⟨e, hf⟩
      · refine .inl ⟨e, hd.n_, hd.down, hd.next, hd.left, hd.ws, fun i hi ho => ?_, fun j x hj => ?_⟩
        · simp only [List.length_cons] at ho
          rw [hd.out i hi (by omega)]
          show nowB (updS D.sec n _ i) = _
          unfold updS
          rw [if_neg (by omega)]
        · cases j with
          | zero =>
            obtain rfl : s = x := by simpa using hj
            refine (hd.out n hk (.inl (by omega))).trans ?_
            show nowB (updS D.sec n _ n) = _
            unfold updS nowB
            simp
          | succ j =>
            have := hd.in_ j x (by simpa using hj)
            rw [show n + (j + 1) = n + 1 + j by omega]
            exact this
      · refine .inr ⟨e, hf.n_, fun i ho => ?_, fun j x hj => ?_⟩
        · simp only [List.length_cons] at ho
          rw [hf.out i (by omega)]
          show updS D.sec n _ i = _
          unfold updS
          rw [if_neg (by omega)]
        · cases j with
          | zero =>
            obtain rfl : s = x := by simpa using hj
            right
            refine ⟨D.next, ?_⟩
            refine (hf.out n (.inl (by omega))).trans ?_
            show updS D.sec n _ n = _
            unfold updS
            rw [if_pos rfl]
            rfl
          | succ j =>
            have := hf.in_ j x (by simpa using hj)
            rw [show n + (j + 1) = n + 1 + j by omega]
            have e2 : updS D.sec n ⟨(D.sec n).dur, (D.sec n).ws ++ [(D.next, padB s)]⟩ (n + 1 + j) = D.sec (n + 1 + j) := by unfold updS; rw [if_neg (by omega)]
            simp only [e2] at this
            exact this
theorem good_wrL : ∀ (ss : List ByteArray) (D : Dk) (n : Nat), n + ss.length ≤ D.n → (∀ s ∈ ss, s.size ≤ 340) → Good D → (wrL D n ss).2 = 0 ∧ Good (wrL D n ss).1
  | [], D, n, _, _, hg => by
    unfold wrL
    rw [hg.flush]
    exact ⟨rfl, hg.settled _⟩
  | s :: r, D, n, hn, hs, hg => by
    simp only [List.length_cons] at hn
    unfold wrL
    rw [hg.write (k := n) (by omega) (hs s (by simp)), if_neg (by simp)]
    exact good_wrL r (putD D n s) (n + 1) (by show n + 1 + r.length ≤ D.n; omega) (fun x hx => hs x (by simp [hx])) (hg.put n s)
/-- Writing an entry: a blank, all but its first sector, its first sector. -/
def blB : ByteArray := ⟨#[]⟩
def we1 (D : Dk) (a : Nat) : Dk × Int := wrL D a [blB]
def we2 (D : Dk) (a : Nat) (rs : List ByteArray) : Dk × Int := wrL (we1 D a).1 (a + 1) rs
def we3 (D : Dk) (a : Nat) (rs : List ByteArray) (s0 : ByteArray) : Dk × Int := wrL (we2 D a rs).1 a [s0]
def weR (D : Dk) (a : Nat) (rs : List ByteArray) (s0 : ByteArray) : Dk × Int := if (we1 D a).2 ≠ 0 then we1 D a else if (we2 D a rs).2 ≠ 0 then we2 D a rs else we3 D a rs s0
structure EDone (D : Dk) (a : Nat) (rs : List ByteArray) (s0 : ByteArray) (D' : Dk) : Prop where
  n_ : D'.n = D.n
  down : D'.down = false
  next : D'.next = 0
  left : -9223372036854775808 ≤ D'.left ∧ D'.left ≤ 9223372036854775807
  ws : ∀ i, (D'.sec i).ws = []
  out : ∀ i, i < D.n → (i < a ∨ a + 1 + rs.length ≤ i) → (D'.sec i).dur = nowB (D.sec i)
  at_ : (D'.sec a).dur = padB s0
  in_ : ∀ j s, rs[j]? = some s → (D'.sec (a + 1 + j)).dur = padB s
/-- What stays where the disk failed on the way. -/
def ECr (D : Dk) (a : Nat) (rs : List ByteArray) (s0 : ByteArray) (D' : Dk) : Prop := D'.n = D.n ∧ ∀ keep,
  (∀ i, i < D.n → stay keep D' i = nowB (D.sec i)) ∨ ((∀ i, i < a → stay keep D' i = nowB (D.sec i)) ∧ (stay keep D' a = padB blB ∨ (stay keep D' a = padB s0 ∧ ∀ j s, rs[j]? = some s → stay keep D' (a + 1 + j) = padB s)))
theorem wok_done {D D' : Dk} {n : Nat} {ss : List ByteArray} (h : WDone D n ss D') {k : Nat} (hk : k < 64) : WOk D' k :=
  ⟨h.left, by rw [h.next]; omega, fun i _ x hx => by rw [h.ws i] at hx; simp at hx, fun i _ => by rw [h.ws i]; exact Nat.zero_le _⟩
theorem wok_e {D D' : Dk} {a : Nat} {rs : List ByteArray} {s0 : ByteArray} (h : EDone D a rs s0 D') {k : Nat} (hk : k < 64) : WOk D' k :=
  ⟨h.left, by rw [h.next]; omega, fun i _ x hx => by rw [h.ws i] at hx; simp at hx, fun i _ => by rw [h.ws i]; exact Nat.zero_le _⟩
theorem now_flat {s : Sec} (h : s.ws = []) : nowB s = s.dur := by unfold nowB; rw [h]; rfl
theorem keep_one (keep : Nat) (d : ByteArray) (b : Nat) (x : ByteArray) : keepB keep d [(b, x)] = x ∨ keepB keep d [(b, x)] = d := by
  unfold keepB
  simp only [List.foldl_cons, List.foldl_nil]
  split
  · exact .inl rfl
  · exact .inr rfl
theorem one_small {s0 : ByteArray} (h0 : s0.size ≤ 340) : ∀ s ∈ [s0], s.size ≤ 340 := fun s h => by
  have e : s = s0 := by simpa using h
  rw [e]; exact h0
theorem weR_spec (D : Dk) (a : Nat) (rs : List ByteArray) (s0 : ByteArray) (hn : a + 1 + rs.length ≤ D.n) (hs : ∀ s ∈ rs, s.size ≤ 340) (h0 : s0.size ≤ 340) (hr : rs.length < 64) (hw : WOk D 1) :
    ((weR D a rs s0).2 = 0 ∧ EDone D a rs s0 (weR D a rs s0).1) ∨ ((weR D a rs s0).2 = 11 ∧ ((∀ i, i < D.n → (D.sec i).ws = []) → ECr D a rs s0 (weR D a rs s0).1)) := by
  have hbl : ∀ s ∈ [blB], s.size ≤ 340 := fun s h => by
    obtain rfl : s = blB := by simpa using h
    show 0 ≤ 340; omega
  unfold weR
  rcases wrL_spec [blB] D a (by show a + 1 ≤ D.n; omega) hbl hw with ⟨e1, d1⟩ | ⟨e1, f1⟩
  · have e1' : (we1 D a).2 = 0 := e1
    rw [if_neg (by rw [e1']; simp)]
    have d1' : WDone D a [blB] (we1 D a).1 := d1
    rcases wrL_spec rs (we1 D a).1 (a + 1) (by rw [d1'.n_]; exact hn) hs (wok_done d1' hr) with ⟨e2, d2⟩ | ⟨e2, f2⟩
    · have e2' : (we2 D a rs).2 = 0 := e2
      have d2' : WDone (we1 D a).1 (a + 1) rs (we2 D a rs).1 := d2
      rw [if_neg (by rw [e2']; simp)]
      have hn2 : (we2 D a rs).1.n = D.n := d2'.n_.trans d1'.n_
      rcases wrL_spec [s0] (we2 D a rs).1 a (by rw [hn2]; show a + 1 ≤ D.n; omega) (one_small h0) (wok_done d2' (by show 1 < 64; omega)) with ⟨e3, d3⟩ | ⟨e3, f3⟩
      · refine .inl ⟨e3, d3.n_.trans hn2, d3.down, d3.next, d3.left, d3.ws, fun i hi ho => ?_, ?_, fun j s hj => ?_⟩
        · rw [show (we3 D a rs s0).1 = (wrL (we2 D a rs).1 a [s0]).1 from rfl, d3.out i (by rw [hn2]; exact hi) (by show i < a ∨ a + 1 ≤ i; omega), now_flat (d2'.ws i), d2'.out i (by rw [d1'.n_]; exact hi) (by omega), now_flat (d1'.ws i), d1'.out i hi (by show i < a ∨ a + 1 ≤ i; omega)]
        · have := d3.in_ 0 s0 rfl
          exact this
        · have hj' := (List.getElem?_eq_some_iff.1 hj).1
          rw [show (we3 D a rs s0).1 = (wrL (we2 D a rs).1 a [s0]).1 from rfl, d3.out (a + 1 + j) (by rw [hn2]; omega) (by show a + 1 + j < a ∨ a + 1 ≤ a + 1 + j; omega), now_flat (d2'.ws _), d2'.in_ j s hj]
      · refine .inr ⟨e3, fun _ => ⟨f3.n_.trans hn2, fun keep => .inr ⟨fun i hi => ?_, ?_⟩⟩⟩
        · have := f3.out i (.inl hi)
          unfold stay
          rw [show (we3 D a rs s0).1 = (wrL (we2 D a rs).1 a [s0]).1 from rfl, this, d2'.ws i, d2'.out i (by rw [d1'.n_]; omega) (.inl (by omega)), now_flat (d1'.ws i), d1'.out i (by omega) (.inl hi)]
          rfl
        · have hat : ((we2 D a rs).1.sec a).dur = padB blB := by rw [d2'.out a (by rw [d1'.n_]; omega) (.inl (by omega)), now_flat (d1'.ws a)]; exact d1'.in_ 0 blB rfl
          have hrest : ∀ j s, rs[j]? = some s → stay keep (we3 D a rs s0).1 (a + 1 + j) = padB s := fun j s hj => by
            have := f3.out (a + 1 + j) (.inr (by show a + 1 ≤ a + 1 + j; omega))
            unfold stay
            rw [show (we3 D a rs s0).1 = (wrL (we2 D a rs).1 a [s0]).1 from rfl, this, d2'.ws _, d2'.in_ j s hj]
            rfl
          have h3 : stay keep (we3 D a rs s0).1 a = padB s0 ∨ stay keep (we3 D a rs s0).1 a = padB blB := by
            unfold stay
            rcases f3.in_ 0 s0 rfl with h | ⟨b, h⟩
            · rw [show (we3 D a rs s0).1 = (wrL (we2 D a rs).1 a [s0]).1 from rfl, show (wrL (we2 D a rs).1 a [s0]).1.sec a = (we2 D a rs).1.sec a from h, d2'.ws a, hat]
              exact .inr rfl
            · rw [show (we3 D a rs s0).1 = (wrL (we2 D a rs).1 a [s0]).1 from rfl, show (wrL (we2 D a rs).1 a [s0]).1.sec a = _ from h]
              dsimp only
              rw [Nat.add_zero, d2'.ws a, hat]
              exact keep_one _ _ _ _
          rcases h3 with h | h
          · exact .inr ⟨h, hrest⟩
          · exact .inl h
    · have e2' : (we2 D a rs).2 = 11 := e2
      have f2' : WFail (we1 D a).1 (a + 1) rs (we2 D a rs).1 := f2
      rw [if_pos (by rw [e2']; simp)]
      refine .inr ⟨e2', fun _ => ⟨f2'.n_.trans d1'.n_, fun keep => .inr ⟨fun i hi => ?_, .inl ?_⟩⟩⟩
      · unfold stay
        rw [f2'.out i (.inl (by omega)), d1'.ws i, d1'.out i (by omega) (.inl hi)]
        rfl
      · unfold stay
        rw [f2'.out a (.inl (by omega)), d1'.ws a, show ((we1 D a).1.sec a).dur = padB blB from d1'.in_ 0 blB rfl]
        rfl
  · have e1' : (we1 D a).2 = 11 := e1
    have f1' : WFail D a [blB] (we1 D a).1 := f1
    rw [if_pos (by rw [e1']; simp)]
    refine .inr ⟨e1', fun hfl => ⟨f1'.n_, fun keep => ?_⟩⟩
    have hout : ∀ i, i < D.n → i ≠ a → stay keep (we1 D a).1 i = nowB (D.sec i) := fun i hi hne => by
      unfold stay
      rw [f1'.out i (by show i < a ∨ a + 1 ≤ i; omega), hfl i hi, now_flat (hfl i hi)]
      rfl
    have ha : a < D.n := by omega
    have h1 : stay keep (we1 D a).1 a = padB blB ∨ stay keep (we1 D a).1 a = nowB (D.sec a) := by
      unfold stay
      rcases f1'.in_ 0 blB rfl with h | ⟨b, h⟩
      · rw [show (we1 D a).1.sec a = D.sec a from h, hfl a ha, now_flat (hfl a ha)]
        exact .inr rfl
      · rw [show (we1 D a).1.sec a = _ from h]
        dsimp only
        rw [Nat.add_zero, hfl a ha, now_flat (hfl a ha)]
        exact keep_one _ _ _ _
    rcases h1 with h | h
    · exact .inr ⟨fun i hi => hout i (by omega) (by omega), .inl h⟩
    · refine .inl fun i hi => ?_
      by_cases hia : i = a
      · subst hia; exact h
      · exact hout i hi hia
theorem good_weR (D : Dk) (a : Nat) (rs : List ByteArray) (s0 : ByteArray) (hn : a + 1 + rs.length ≤ D.n) (hs : ∀ s ∈ rs, s.size ≤ 340) (h0 : s0.size ≤ 340) (hr : rs.length < 64) (hw : WOk D 1) (hg : Good D) : (weR D a rs s0).2 = 0 ∧ Good (weR D a rs s0).1 := by
  have hbl : ∀ s ∈ [blB], s.size ≤ 340 := fun s h => by
    obtain rfl : s = blB := by simpa using h
    show 0 ≤ 340; omega
  have h1 : (we1 D a).2 = 0 ∧ Good (we1 D a).1 := good_wrL [blB] D a (by show a + 1 ≤ D.n; omega) hbl hg
  have d1 : WDone D a [blB] (we1 D a).1 := by
    rcases wrL_spec [blB] D a (by show a + 1 ≤ D.n; omega) hbl hw with ⟨_, d1⟩ | ⟨e1, _⟩
    · exact d1
    · have e1' : (we1 D a).2 = 11 := e1
      rw [h1.1] at e1'; cases e1'
  have h2 : (we2 D a rs).2 = 0 ∧ Good (we2 D a rs).1 := good_wrL rs (we1 D a).1 (a + 1) (by rw [d1.n_]; exact hn) hs h1.2
  have d2 : WDone (we1 D a).1 (a + 1) rs (we2 D a rs).1 := by
    rcases wrL_spec rs (we1 D a).1 (a + 1) (by rw [d1.n_]; exact hn) hs (wok_done d1 hr) with ⟨_, d2⟩ | ⟨e2, _⟩
    · exact d2
    · have e2' : (we2 D a rs).2 = 11 := e2
      rw [h2.1] at e2'; cases e2'
  have h3 : (we3 D a rs s0).2 = 0 ∧ Good (we3 D a rs s0).1 := good_wrL [s0] (we2 D a rs).1 a (by rw [d2.n_, d1.n_]; show a + 1 ≤ D.n; omega) (one_small h0) h2.2
  unfold weR
  rw [if_neg (by rw [h1.1]; simp), if_neg (by rw [h2.1]; simp)]
  exact h3
end Go.Proofs.Ytgkenknplepmeaa
namespace Go.Proofs.Ytgkenknplepmeaa
open Go.RowKit Go.Sort

theorem sO_list : sO.toList = [111] := by rw [ByteArray.toList_eq]; rfl
theorem sC_list : sC.toList = [99] := by rw [ByteArray.toList_eq]; rfl
theorem nil_list : (⟨#[]⟩ : ByteArray).toList = [] := by rw [ByteArray.toList_eq]
theorem rdR_cut (f g : Nat → ByteArray) (first : Nat) : ∀ (m i : Nat) (es : List (List Ch)) (cs : List Ch) (u : Nat), (∀ j, i ≤ j → j < (rdR f first m i es cs u).2 → g j = f j) →
    rdR f first m i es cs u = (es, u) ∨ (i < (rdR f first m i es cs u).2 ∧ (rdR f first m i es cs u).2 ≤ i + m ∧
      rdR g first m i es cs u = rdR g first (i + m - (rdR f first m i es cs u).2) (rdR f first m i es cs u).2 (rdR f first m i es cs u).1 [] (rdR f first m i es cs u).2)
  | 0, i, es, cs, u, _ => .inl rfl
  | m + 1, i, es, cs, u, hg => by
    by_cases h1 : (kdR (f i) (first + i)).1.toList = [111] ∧ parB (kdR (f i) (first + i)).2 = true
    · have e1 : rdR f first (m + 1) i es cs u = rdR f first m (i + 1) es (cs ++ [parCh (kdR (f i) (first + i)).2]) u := by rw [rdR, if_pos h1]
      rw [e1] at hg ⊢
      rcases rdR_cut f g first m (i + 1) es (cs ++ [parCh (kdR (f i) (first + i)).2]) u (fun j hj hj2 => hg j (by omega) hj2) with h | ⟨h2, h3, h4⟩
      · exact .inl h
      · refine .inr ⟨by omega, by omega, ?_⟩
        have hgi : g i = f i := hg i (Nat.le_refl _) (by omega)
        rw [rdR, hgi, if_pos h1, h4, show i + (m + 1) = i + 1 + m by omega]
    · by_cases h2 : (kdR (f i) (first + i)).1.toList = [99] ∧ (kdR (f i) (first + i)).2.toList = (numR cs.length 4).toList
      · have e1 : rdR f first (m + 1) i es cs u = rdR f first m (i + 1) (es ++ [cs]) [] (i + 1) := by rw [rdR, if_neg h1, if_pos h2]
        rw [e1] at hg ⊢
        rcases rdR_cut f g first m (i + 1) (es ++ [cs]) [] (i + 1) (fun j hj hj2 => hg j (by omega) hj2) with h | ⟨h3, h4, h5⟩
        · refine .inr ?_
          rw [h] at hg ⊢
          have hgi : g i = f i := hg i (Nat.le_refl _) (by show i < i + 1; omega)
          refine ⟨by show i < i + 1; omega, by show i + 1 ≤ i + (m + 1); omega, ?_⟩
          rw [rdR, hgi, if_neg h1, if_pos h2]
          show _ = rdR g first (i + (m + 1) - (i + 1)) (i + 1) (es ++ [cs]) [] (i + 1)
          rw [show i + (m + 1) - (i + 1) = m by omega]
        · refine .inr ⟨by omega, by omega, ?_⟩
          have hgi : g i = f i := hg i (Nat.le_refl _) (by omega)
          rw [rdR, hgi, if_neg h1, if_pos h2, h5, show i + (m + 1) = i + 1 + m by omega]
      · left
        rw [rdR, if_neg h1, if_neg h2]
/-- What stands below the end of the last entry makes all of the entries. -/
theorem rdR_end (f g : Nat → ByteArray) (first m : Nat) {es : List (List Ch)} {u : Nat} (h : rdR f first m 0 [] [] 0 = (es, u)) (hg : ∀ j, j < u → g j = f j) : u ≤ m ∧ rdR g first m 0 [] [] 0 = rdR g first (m - u) u es [] u := by
  rcases rdR_cut f g first m 0 [] [] 0 (fun j _ hj => hg j (by rw [h] at hj; exact hj)) with h1 | ⟨h1, h2, h3⟩
  · rw [h1] at h
    injection h with h4 h5
    subst h4 h5
    exact ⟨Nat.zero_le _, rfl⟩
  · rw [h] at h2 h3
    exact ⟨by simpa using h2, by rw [h3]; show rdR g first (0 + m - u) u es [] u = _; rw [Nat.zero_add]⟩
theorem rdR_stop (g : Nat → ByteArray) (first : Nat) (m i : Nat) (es : List (List Ch)) (cs : List Ch) (u : Nat) (h : 0 < m → g i = padB blB) : rdR g first m i es cs u = (es, u) := by
  cases m with
  | zero => rfl
  | succ m =>
    rw [rdR, h (by omega), show padB blB = padB ⟨#[]⟩ from rfl, kdR_blank, if_neg (by rintro ⟨h, _⟩; rw [nil_list] at h; cases h), if_neg (by rintro ⟨h, _⟩; rw [nil_list] at h; cases h)]
theorem ckR_val {c : Ch} (h : ckR c = 0) : c.val.size ≤ 300 := by
  unfold ckR at h
  split at h
  · split at h
    · cases h
    · rename_i hc
      simp at hc
      omega
  · cases h
theorem encR_size (c : Ch) : (encR c).size = 2 + c.key.size + c.val.size := by
  show (encR c).data.size = _
  rw [← Array.length_toList, encR_list c]
  simp only [List.length_cons, List.length_append, Array.length_toList]
  show c.key.size + c.val.size + 1 + 1 = _
  omega
theorem enc_small {c : Ch} (h : ckR c = 0) : (encR c).size ≤ 312 := by
  have h1 := ckR_key h
  have h2 := ckR_val h
  rw [encR_size]; omega
theorem secR_size (k d : ByteArray) (n : Nat) : (secR k n d).size = k.size + 6 + d.size := by
  have h := congrArg List.length (secR_list k n d)
  simp only [List.length_append, len_list, num4_size, num2_size] at h
  omega
theorem entR_len (n : Nat) (l : List Ch) : (entR n l).length = l.length + 1 := by
  unfold entR entTo
  simp
theorem entTo_at {n : Nat} {l : List Ch} {j : Nat} {c : Ch} (h : l[j]? = some c) : (entR n l)[j]? = some (secR sO (n + j) (encR c)) := by
  have hj := (List.getElem?_eq_some_iff.1 h).1
  unfold entR entTo
  rw [List.getElem?_append_left (by simpa using hj)]
  have e : l[j] = c := by rw [List.getElem?_eq_getElem hj] at h; injection h
  simp [List.getD_eq_getElem?_getD, hj, e]
theorem entR_last (n : Nat) (l : List Ch) : (entR n l)[l.length]? = some (secR sC (n + l.length) (numR l.length 4)) := by
  unfold entR entTo
  rw [List.getElem?_append_right (by simp)]
  simp
theorem entR_small {n : Nat} {l : List Ch} (h : ∀ c ∈ l, ckR c = 0) : ∀ s ∈ entR n l, s.size ≤ 340 := fun s hs => by
  obtain ⟨j, hj, e⟩ := List.mem_iff_getElem.1 hs
  have hs' : (entR n l)[j]? = some s := by rw [List.getElem?_eq_getElem hj, e]
  rw [entR_len] at hj
  rcases Nat.lt_or_ge j l.length with h1 | h1
  · have hc : l[j]? = some l[j] := List.getElem?_eq_getElem h1
    rw [entTo_at hc] at hs'
    injection hs' with hs'
    rw [← hs', secR_size]
    have := enc_small (h _ (List.mem_of_getElem? hc))
    show 1 + 6 + _ ≤ 340
    omega
  · obtain rfl : j = l.length := by omega
    rw [entR_last] at hs'
    injection hs' with hs'
    rw [← hs', secR_size, num4_size]
    show 1 + 6 + 4 ≤ 340
    omega
theorem rdR_entry (g : Nat → ByteArray) (first u r : Nat) (es : List (List Ch)) (l : List Ch) (U : Nat) (hl : ∀ c ∈ l, ckR c = 0) (hg : ∀ j s, (entR (first + u) l)[j]? = some s → g (u + j) = padB s) :
    ∀ k, k ≤ l.length → rdR g first (l.length + 1 + r) u es [] U = rdR g first (l.length - k + 1 + r) (u + k) es (l.take k) U
  | 0, _ => by simp
  | k + 1, hk => by
    have hk' : k < l.length := hk
    rw [rdR_entry g first u r es l U hl hg k (by omega), show l.length - k + 1 + r = (l.length - (k + 1) + 1 + r) + 1 by omega, rdR]
    have hc : l[k]? = some l[k] := List.getElem?_eq_getElem hk'
    have h0 := hl _ (List.mem_of_getElem? hc)
    have h1 := hg k _ (entTo_at hc)
    have h2 := par_enc h0
    have hkd : kdR (padB (secR sO (first + u + k) (encR l[k]))) (first + u + k) = (sO, encR l[k]) := kdR_sec (.inl sO_list) _ (by have := enc_small h0; omega)
    rw [h1, show first + (u + k) = first + u + k by omega, hkd, if_pos ⟨sO_list, h2.1⟩, List.take_add_one, hc]
    show rdR _ _ _ _ _ (_ ++ [parCh (encR l[k])]) _ = _
    unfold parCh
    rw [h2.1, if_pos rfl, h2.2]
    rfl
/-- An entry that was written is read. -/
theorem rdR_added (g : Nat → ByteArray) (first u r : Nat) (es : List (List Ch)) (l : List Ch) (U : Nat) (hl : ∀ c ∈ l, ckR c = 0) (hg : ∀ j s, (entR (first + u) l)[j]? = some s → g (u + j) = padB s) :
    rdR g first (l.length + 1 + r) u es [] U = rdR g first r (u + l.length + 1) (es ++ [l]) [] (u + l.length + 1) := by
  rw [rdR_entry g first u r es l U hl hg l.length (Nat.le_refl _), show l.length - l.length + 1 + r = r + 1 by omega, rdR]
  have h1 := hg _ _ (entR_last (first + u) l)
  have hkd : kdR (padB (secR sC (first + u + l.length) (numR l.length 4))) (first + u + l.length) = (sC, numR l.length 4) := kdR_sec (.inr sC_list) _ (by rw [num4_size]; omega)
  rw [h1, show first + (u + l.length) = first + u + l.length by omega, hkd, if_neg (by rintro ⟨h, _⟩; rw [sC_list] at h; cases h), if_pos ⟨sC_list, by rw [List.take_length]⟩, List.take_length]
/-- What is written behind the first sector: the rest, and a blank where there is room. -/
def rsR (room : Nat) (ss : List ByteArray) : List ByteArray := if ss.length < room then ss.drop 1 ++ [blB] else ss.drop 1
theorem rsR_len {room : Nat} {ss : List ByteArray} (h : 0 < ss.length) (hr : ss.length ≤ room) : (rsR room ss).length ≤ ss.length ∧ 1 + (rsR room ss).length ≤ room := by
  unfold rsR
  split
  · simp; omega
  · simp; omega
theorem rsR_small {room : Nat} {ss : List ByteArray} (h : ∀ s ∈ ss, s.size ≤ 340) : ∀ s ∈ rsR room ss, s.size ≤ 340 := fun s hs => by
  unfold rsR at hs
  split at hs
  · rcases List.mem_append.1 hs with h1 | h1
    · exact h s (List.mem_of_mem_drop h1)
    · obtain rfl : s = blB := by simpa using h1
      show 0 ≤ 340; omega
  · exact h s (List.mem_of_mem_drop hs)
theorem rsR_at {room : Nat} {ss : List ByteArray} {j : Nat} {s : ByteArray} (h : ss[j + 1]? = some s) : (rsR room ss)[j]? = some s := by
  have hj := (List.getElem?_eq_some_iff.1 h).1
  have h2 : (ss.drop 1)[j]? = some s := by rw [List.getElem?_drop, Nat.add_comm]; exact h
  unfold rsR
  split
  · rw [List.getElem?_append_left (List.getElem?_eq_some_iff.1 h2).1]; exact h2
  · exact h2
theorem rsR_blank {room : Nat} {ss : List ByteArray} (h : 0 < ss.length) (hr : ss.length < room) : (rsR room ss)[ss.length - 1]? = some blB := by
  unfold rsR
  rw [if_pos hr, List.getElem?_append_right (by simp)]
  simp
/-- The sectors of a log: what stands there. -/
structure Stand (g f : Nat → ByteArray) (u mn : Nat) (ss : List ByteArray) : Prop where
  low : ∀ j, j < u → g j = f j
  at_ : ∀ s, ss[0]? = some s → g u = padB s
  in_ : ∀ j s, (rsR (mn - u) ss)[j]? = some s → g (u + 1 + j) = padB s
theorem read_added {f g : Nat → ByteArray} {first mn u : Nat} {es : List (List Ch)} {l : List Ch} (h : rdR f first mn 0 [] [] 0 = (es, u)) (hl : ∀ c ∈ l, ckR c = 0) (hr : l.length + 1 ≤ mn - u) (hs : Stand g f u mn (entR (first + u) l)) :
    rdR g first mn 0 [] [] 0 = (es ++ [l], u + l.length + 1) := by
  obtain ⟨h1, h2⟩ := rdR_end f g first mn h hs.low
  have hlen := entR_len (first + u) l
  have hall : ∀ j s, (entR (first + u) l)[j]? = some s → g (u + j) = padB s := fun j s hj => by
    cases j with
    | zero => exact hs.at_ s hj
    | succ j =>
      have := hs.in_ j s (rsR_at hj)
      rw [show u + (j + 1) = u + 1 + j by omega]; exact this
  obtain ⟨r, hr'⟩ : ∃ r, mn - u = l.length + 1 + r := ⟨mn - u - (l.length + 1), by omega⟩
  rw [h2, hr', rdR_added g first u r es l u hl hall]
  refine rdR_stop _ _ _ _ _ _ _ fun h0 => ?_
  have := hs.in_ _ _ (rsR_blank (ss := entR (first + u) l) (room := mn - u) (by omega) (by omega))
  rw [hlen] at this
  rw [show u + l.length + 1 = u + 1 + (l.length + 1 - 1) by omega]
  exact this
theorem read_blank {f g : Nat → ByteArray} {first mn u : Nat} {es : List (List Ch)} (h : rdR f first mn 0 [] [] 0 = (es, u)) (hg : ∀ j, j < u → g j = f j) (hb : g u = padB blB) : rdR g first mn 0 [] [] 0 = (es, u) := by
  obtain ⟨h1, h2⟩ := rdR_end f g first mn h hg
  rw [h2]
  exact rdR_stop _ _ _ _ _ _ _ fun _ => hb
theorem rdR_congr {f g : Nat → ByteArray} {first : Nat} : ∀ (m i : Nat) (es : List (List Ch)) (cs : List Ch) (u : Nat), (∀ j, i ≤ j → j < i + m → g j = f j) → rdR g first m i es cs u = rdR f first m i es cs u
  | 0, _, _, _, _, _ => rfl
  | m + 1, i, es, cs, u, h => by
    rw [rdR, rdR, h i (Nat.le_refl _) (by omega), rdR_congr m (i + 1) _ _ _ (fun j h1 h2 => h j (by omega) (by omega)), rdR_congr m (i + 1) _ _ _ (fun j h1 h2 => h j (by omega) (by omega))]
theorem rdR_len {f : Nat → ByteArray} {first : Nat} : ∀ (m i : Nat) (es : List (List Ch)) (cs : List Ch) (u : Nat), (rdR f first m i es cs u).1.length ≤ es.length + m
  | 0, _, _, _, _ => Nat.le_refl _
  | m + 1, i, es, cs, u => by
    rw [rdR]
    split
    · have := rdR_len (f := f) (first := first) m (i + 1) es (cs ++ [parCh (kdR (f i) (first + i)).2]) u
      omega
    · split
      · have := rdR_len (f := f) (first := first) m (i + 1) (es ++ [cs]) [] (i + 1)
        rw [List.length_append] at this
        have e : [cs].length = 1 := rfl
        omega
      · show es.length ≤ _; omega
end Go.Proofs.Ytgkenknplepmeaa
