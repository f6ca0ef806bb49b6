/-
  PLAIN: the program's disk and the document's go together, call by call.
-/
import Derived.Test.YtgkenknplepmeaaRkA
import Derived.Test.YtgkenknplepmeaaDdD
import Derived.Test.YtgkenknplepmeaaTd
namespace Go.Proofs.Ytgkenknplepmeaa
open Go.RowKit

theorem keptL_len (keep : Nat) (kept : List ByteArray) (wait : TN) : ∀ j, (keptL keep kept wait j).length = kept.length
  | 0 => rfl
  | j + 1 => by
    unfold keptL
    have ih := keptL_len keep kept wait j
    split
    · split
      · rw [List.length_set, ih]
      · exact ih
    · exact ih
theorem keptL_more (keep : Nat) (kept : List ByteArray) (wait more : TN) : ∀ j, j ≤ wait.length → keptL keep kept (wait ++ more) j = keptL keep kept wait j
  | 0, _ => rfl
  | j + 1, h => by
    unfold keptL
    rw [keptL_more keep kept wait more j (by omega), List.getElem?_append_left (by omega)]
theorem keptL_snoc (keep : Nat) (kept : List ByteArray) (wait : TN) (x : Nat × ByteArray) : keptL keep kept (wait ++ [x]) (wait ++ [x]).length = if keep.testBit (wait.length % 64) then (keptL keep kept wait wait.length).set x.1 x.2 else keptL keep kept wait wait.length := by
  rw [List.length_append, List.length_singleton]
  show (match (wait ++ [x])[wait.length]? with
    | some x => if keep.testBit (wait.length % 64) then (keptL keep kept (wait ++ [_]) wait.length).set x.1 x.2 else keptL keep kept (wait ++ [_]) wait.length
    | none => keptL keep kept (wait ++ [_]) wait.length) = _
  rw [List.getElem?_append_right (Nat.le_refl _), Nat.sub_self, keptL_more keep kept wait [x] _ (Nat.le_refl _)]
  rfl
theorem keepB_strike {keep nx : Nat} (hk : keep.testBit nx = false) : ∀ (l : SW) (d : ByteArray), keepB keep d (strikeW nx l) = keepB keep d l
  | [], _ => rfl
  | x :: r, d => by
    by_cases hx : x.1 = nx
    · have e : strikeW nx (x :: r) = strikeW nx r := by simp [strikeW, hx]
      rw [e, keepB_strike hk r d]
      show _ = keepB keep (if keep.testBit x.1 then x.2 else d) r
      rw [hx, hk]
      rfl
    · have e : strikeW nx (x :: r) = x :: strikeW nx r := by simp [strikeW, hx]
      rw [e]
      exact keepB_strike hk r _
theorem keepB_all {l : SW} (d : ByteArray) (h : ∀ x ∈ l, x.1 < 64) : keepB allK d l = nowB ⟨d, l⟩ := by
  rcases List.eq_nil_or_concat l with rfl | ⟨l', x, rfl⟩
  · rfl
  · rw [List.concat_eq_append, keepB_snoc]
    have hb : allK.testBit x.1 = true := by
      rw [show allK = 2 ^ 64 - 1 from by decide, Nat.testBit_two_pow_sub_one]
      exact decide_eq_true (h x (by simp))
    rw [hb]
    simp [nowB]
/-- The program's disk D and the document's R go together; at most b writes wait. -/
structure Go2 (D : Dk) (R : Rk) (b : Nat) : Prop where
  nn : R.now.length = D.n
  nk : R.kept.length = D.n
  now : ∀ i, i < D.n → R.now[i]? = some (nowB (D.sec i))
  stay : ∀ keep i, i < D.n → (keptQ keep R R.wait.length)[i]? = some (stay keep D i)
  next : D.next = R.wait.length % 64
  wlen : R.wait.length ≤ b
  slen : ∀ i, i < D.n → (D.sec i).ws.length ≤ b
  bit : ∀ i, i < D.n → ∀ x ∈ (D.sec i).ws, x.1 < 64
  down : D.down = R.down
  left : D.down = false → D.left = R.fuse ∨ (D.left < 0 ∧ R.fuse = -1)
  rl : -9223372036854775808 ≤ D.left ∧ D.left ≤ 9223372036854775807
  rf : -1 ≤ R.fuse ∧ R.fuse ≤ 9223372036854775807
  wat : ∀ x ∈ R.wait, x.1 < D.n
section
variable {D : Dk} {R : Rk} {b : Nat}
theorem Go2.mono (h : Go2 D R b) {b' : Nat} (hb : b ≤ b') : Go2 D R b' := { h with wlen := Nat.le_trans h.wlen hb, slen := fun i hi => Nat.le_trans (h.slen i hi) hb }
theorem Go2.step (h : Go2 D R b) : (stepR D).2 = (stepQ R).2 ∧ Go2 (stepR D).1 (stepQ R).1 b := by
  have hd := h.down
  have rl := h.rl
  have rf := h.rf
  unfold stepR stepQ
  cases hR : R.down with
  | true =>
    rw [hR] at hd
    rw [if_pos (Or.inr hd), if_pos rfl]
    exact ⟨rfl, { h with down := by show true = R.down; rw [hR], left := fun e => (by cases e) }⟩
  | false =>
    rw [hR] at hd
    have hl := h.left hd
    rw [if_neg (show ¬ (false = true) by simp)]
    by_cases h0 : R.fuse = 0
    · rw [if_pos (Or.inl (by omega)), if_pos h0]
      exact ⟨rfl, { h with down := rfl, left := fun e => (by cases e), rf := ⟨(by show (-1 : Int) ≤ -1; omega), (by show (-1 : Int) ≤ _; omega)⟩ }⟩
    · rw [if_neg (by rintro (e | e); omega; rw [hd] at e; cases e), if_neg h0]
      have hleft : (if 0 < D.left then D.left - 1 else D.left) = (if 0 < R.fuse then R.fuse - 1 else R.fuse) ∨ ((if 0 < D.left then D.left - 1 else D.left) < 0 ∧ (if 0 < R.fuse then R.fuse - 1 else R.fuse) = -1) := by split <;> split <;> omega
      have hrl : -9223372036854775808 ≤ (if 0 < D.left then D.left - 1 else D.left) ∧ (if 0 < D.left then D.left - 1 else D.left) ≤ 9223372036854775807 := by split <;> omega
      have hrf : -1 ≤ (if 0 < R.fuse then R.fuse - 1 else R.fuse) ∧ (if 0 < R.fuse then R.fuse - 1 else R.fuse) ≤ 9223372036854775807 := by split <;> omega
      exact ⟨rfl, { h with down := hd, left := fun _ => hleft, rl := hrl, rf := hrf }⟩
theorem Go2.has (h : Go2 D R b) (a : Int) : hasQ R a = hasR D a := by unfold hasQ hasR; rw [h.nn]
theorem Go2.nowq (h : Go2 D R b) {i : Nat} (hi : i < D.n) : nowQ R i = nowB (D.sec i) := by unfold nowQ; rw [h.now i hi]; rfl
theorem Go2.read (h : Go2 D R b) (a : Int) : readQ R a = readR D a := by
  unfold readQ readR
  rw [h.has, h.down]
  split
  · rfl
  · split
    · rename_i hh
      unfold hasR at hh
      rw [Bool.and_eq_true, decide_eq_true_eq, decide_eq_true_eq] at hh
      rw [h.nowq (by omega)]
    · rfl
theorem Go2.put (h : Go2 D R b) {k : Nat} (hk : k < D.n) (s : ByteArray) : Go2 { D with sec := updS D.sec k ⟨(D.sec k).dur, strikeW D.next (D.sec k).ws ++ [(D.next, padB s)]⟩, next := (D.next + 1) % 64 } { R with now := R.now.set k (padB s), wait := R.wait ++ [(k, padB s)] } (b + 1) := by
  have hnx : D.next < 64 := by rw [h.next]; omega
  refine ⟨?_, h.nk, fun i hi => ?_, fun keep i hi => ?_, ?_, ?_, fun i hi => ?_, fun i hi x hx => ?_, h.down, h.left, h.rl, h.rf, fun x hx => ?_⟩
  · show (R.now.set k (padB s)).length = D.n
    rw [List.length_set, h.nn]
  · show (R.now.set k (padB s))[i]? = some (nowB (updS D.sec k _ i))
    by_cases e : i = k
    · subst e
      rw [List.getElem?_set_self (by rw [h.nn]; exact hk), updS_at]
      simp [nowB]
    · rw [List.getElem?_set_ne (fun e' => e e'.symm), h.now i hi]
      simp [updS, e]
  · show (keptL keep R.kept (R.wait ++ [(k, padB s)]) (R.wait ++ [(k, padB s)]).length)[i]? = some (Go.Proofs.Ytgkenknplepmeaa.stay keep { D with sec := updS D.sec k _, next := _ } i)
    rw [keptL_snoc]
    have hs := h.stay keep i hi
    unfold keptQ at hs
    unfold Go.Proofs.Ytgkenknplepmeaa.stay
    show _ = some (keepB keep (updS D.sec k _ i).dur (updS D.sec k _ i).ws)
    by_cases e : i = k
    · subst e
      rw [updS_at, keepB_snoc, h.next]
      split
      · rw [List.getElem?_set_self (by rw [keptL_len, h.nk]; exact hk)]
      · rename_i hb
        rw [keepB_strike (by simpa using hb), hs]
        rfl
    · have e2 : updS D.sec k ⟨(D.sec k).dur, strikeW D.next (D.sec k).ws ++ [(D.next, padB s)]⟩ i = D.sec i := by simp [updS, e]
      rw [e2]
      split
      · rw [List.getElem?_set_ne (fun e' => e e'.symm), hs]; rfl
      · rw [hs]; rfl
  · show (D.next + 1) % 64 = (R.wait ++ [(k, padB s)]).length % 64
    rw [List.length_append, List.length_singleton, h.next]
    omega
  · show (R.wait ++ [(k, padB s)]).length ≤ b + 1
    have := h.wlen
    rw [List.length_append, List.length_singleton]
    omega
  · show (updS D.sec k _ i).ws.length ≤ b + 1
    have := h.slen i hi
    by_cases e : i = k
    · subst e
      rw [updS_at]
      show (strikeW D.next (D.sec i).ws ++ [(D.next, padB s)]).length ≤ b + 1
      rw [List.length_append, List.length_singleton]
      have : (strikeW D.next (D.sec i).ws).length ≤ (D.sec i).ws.length := List.length_filter_le _ _
      omega
    · simp only [updS, e, if_false]; omega
  · replace hx : x ∈ (updS D.sec k ⟨(D.sec k).dur, strikeW D.next (D.sec k).ws ++ [(D.next, padB s)]⟩ i).ws := hx
    by_cases e : i = k
    · subst e
      rw [updS_at] at hx
      rcases List.mem_append.1 hx with h1 | h1
      · exact h.bit i hi x (strikeW_mem h1)
      · rw [List.mem_singleton] at h1; subst h1; exact hnx
    · simp only [updS, e, if_false] at hx
      exact h.bit i hi x hx
  · rcases List.mem_append.1 hx with h1 | h1
    · exact h.wat x h1
    · rw [List.mem_singleton] at h1; subst h1; exact hk
theorem Go2.write (h : Go2 D R b) (a : Int) (s : ByteArray) : (writeX D a s).2 = (writeQ R a s).2 ∧ Go2 (writeX D a s).1 (writeQ R a s).1 (b + 1) := by
  unfold writeX writeQ
  rw [h.has]
  split
  · exact ⟨rfl, h.mono (by omega)⟩
  · rename_i hh
    have hk : a.toNat < D.n := by
      cases e : hasR D a with
      | false => exact absurd (.inl e) hh
      | true =>
        unfold hasR at e
        rw [Bool.and_eq_true, decide_eq_true_eq, decide_eq_true_eq] at e
        omega
    obtain ⟨h1, h2⟩ := h.step
    rw [h1]
    split
    · exact ⟨h1, h2.mono (by omega)⟩
    · rename_i h0
      refine ⟨rfl, ?_⟩
      have hn : (stepR D).1.sec = D.sec ∧ (stepR D).1.next = D.next ∧ (stepR D).1.n = D.n := by unfold stepR; split <;> exact ⟨rfl, rfl, rfl⟩
      have hq : (stepQ R).1.now = R.now ∧ (stepQ R).1.wait = R.wait := by unfold stepQ; split; exact ⟨rfl, rfl⟩; split <;> exact ⟨rfl, rfl⟩
      have := h2.put (k := a.toNat) (by rw [hn.2.2]; exact hk) s
      rw [hn.1, hn.2.1, hq.1, hq.2] at this
      exact this
theorem Go2.settled {keep : Nat} (h : Go2 D R b) {l : List ByteArray} (hl : l.length = D.n) (hs : ∀ i, i < D.n → l[i]? = some (Go.Proofs.Ytgkenknplepmeaa.stay keep D i)) : Go2 (settleR keep D) { R with kept := l, now := l, wait := [] } b :=
  ⟨hl, hl, hs, fun k i hi => hs i hi, rfl, Nat.zero_le _, fun _ _ => Nat.zero_le _, fun i _ x hx => (by cases hx), h.down, h.left, h.rl, h.rf, fun x hx => (by cases hx)⟩
theorem Go2.flush (h : Go2 D R b) : (flushR D).2 = (flushQ R).2 ∧ Go2 (flushR D).1 (flushQ R).1 b := by
  unfold flushR flushQ
  obtain ⟨h1, h2⟩ := h.step
  rw [h1]
  split
  · exact ⟨h1, h2⟩
  · refine ⟨rfl, ?_⟩
    have hq : (stepQ R).1.now = R.now := by unfold stepQ; split; rfl; split <;> rfl
    have := h2.settled (keep := allK) (l := R.now) (by rw [← hq]; exact h2.nn) (fun i hi => by
      rw [← hq, h2.now i hi]
      unfold Go.Proofs.Ytgkenknplepmeaa.stay
      rw [keepB_all _ (h2.bit i hi)])
    rw [← hq] at this ⊢
    exact this
theorem Go2.restart (h : Go2 D R b) (keep : Nat) : Go2 (restartR keep D) (restartQ keep R) b := by
  have := h.settled (keep := keep) (l := keptQ keep R R.wait.length) (by unfold keptQ; rw [keptL_len, h.nk]) (h.stay keep)
  exact { this with down := rfl, left := fun _ => .inl rfl, rl := ⟨by show _ ≤ (-1 : Int); omega, by show (-1 : Int) ≤ _; omega⟩, rf := ⟨by show _ ≤ (-1 : Int); omega, by show (-1 : Int) ≤ _; omega⟩ }
/-- Max(n, -1), as the built-in gives it. -/
def fuseOf (n : Int) : Int := if n < -1 then -1 else n
theorem Go2.arm (h : Go2 D R b) (n : Int) (hn : -9223372036854775808 ≤ n ∧ n ≤ 9223372036854775807) : Go2 { D with left := n } { R with fuse := fuseOf n } b := by
  have h1 : n = fuseOf n ∨ (n < 0 ∧ fuseOf n = -1) := by unfold fuseOf; split <;> omega
  have h2 : -1 ≤ fuseOf n ∧ fuseOf n ≤ 9223372036854775807 := by unfold fuseOf; split <;> omega
  exact { h with left := fun _ => h1, rl := hn, rf := h2 }
/-- New disks. -/
def newQ (n : Nat) : Rk := ⟨List.replicate n (noughtB 340), List.replicate n (noughtB 340), [], -1, false⟩
theorem go2_new {n : Nat} : Go2 (newD n) (newQ n) 0 :=
  ⟨List.length_replicate, List.length_replicate, fun i hi => by
      show (List.replicate n (noughtB 340))[i]? = _
      rw [List.getElem?_replicate, if_pos (show i < n from hi)]; rfl, fun keep i hi => by
      show (List.replicate n (noughtB 340))[i]? = _
      rw [List.getElem?_replicate, if_pos (show i < n from hi)]; rfl, rfl, Nat.le_refl _, fun _ _ => Nat.le_refl _, fun i _ x hx => (by cases hx), rfl, fun _ => .inl rfl, ⟨by show _ ≤ (-1 : Int); omega, by show (-1 : Int) ≤ _; omega⟩, ⟨by show _ ≤ (-1 : Int); omega, by show (-1 : Int) ≤ _; omega⟩, fun x hx => (by cases hx)⟩
end
end Go.Proofs.Ytgkenknplepmeaa
