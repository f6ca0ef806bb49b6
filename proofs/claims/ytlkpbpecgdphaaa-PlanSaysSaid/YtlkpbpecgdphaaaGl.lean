/-
  WALK: (*graph.walk).group where no rule names the target: by a pattern, or no group.
-/
import Derived.Test.YtlkpbpecgdphaaaParse
import Derived.Laws.StructEq
import Derived.Deep.RegionHeld3
import Derived.Test.YtlkpbpecgdphaaaGf
import Derived.Deep.AppendLies
import Derived.Test.YtlkpbpecgdphaaaFields
namespace Go.Proofs.Ytlkpbpecgdphaaa
open Go.RowKit

set_option maxHeartbeats 2000000 in
set_option maxRecDepth 100000 in
/-- hammerpondref.SameTexts of two slices that read as the same texts. -/
theorem sameTexts_any (A A' : Option Addr) (n c c' : Nat) (l : List ByteArray) (w : World) (h : RdS w w.heap.size A n c l) (h' : RdS w w.heap.size A' n c' l) :
    Calls Try.prog 29 #[.slice A n c, .slice A' n c'] w fun e w' => e = .returned (.bool true) ∧ ∃ k, w' = w.drewN k := by
  have hm := h.2.2.1
  have hnc := h.2.1
  unfold maxLen at hm
  have HR := Lib.hid h
  have HR' := Lib.hid h'
  clear h h'
  go_enter Try.func29, Try.ntmps29
  go_wp2
  go_loopw [5] (fun i wr => SameRel w n i wr) (fun i _ => n - (intOf i).toNat)
  case atStart => exact ⟨0, Nat.zero_le _, rfl, 0, rfl⟩
  case round =>
    obtain ⟨k, hk, rfl, q, rfl⟩ := hrel
    by_cases hlt : k < n
    · obtain ⟨f, hf⟩ : ∃ f, l[k]? = some f := ⟨_, List.getElem?_eq_getElem (by rw [HR.out.1]; exact hlt)⟩
      obtain ⟨b, off, rfl, hbb, hc1⟩ := HR.out.at_ hf
      obtain ⟨b', off', rfl, hbb', hc1'⟩ := HR'.out.at_ hf
      clear hf
      have hiz : (k : Int) < (n : Int) := by omega
      go_wp2
      go_quiet (fail)
      go_wp2
      go_roundw
      case rel => exact ⟨k + 1, by omega, by go_num, by first | exact ⟨_, rfl⟩ | exact ⟨_, World.drewN_drewN _ _ _⟩⟩
      case measure => simp [intOf]; omega
    · obtain rfl : k = n := by omega
      go_wp2
      go_ret
      exact ⟨rfl, _, rfl⟩
theorem Sl.two {w : World} {v v' : Value} {l : List ByteArray} (h : Sl w v l) (h' : Sl w v' l) : Calls Try.prog 29 #[v, v'] w fun e w' => e = .returned (.bool true) ∧ ∃ k, w' = w.drewN k := by
  obtain ⟨A, c, rfl, hr⟩ := h
  obtain ⟨A', c', rfl, hr'⟩ := h'
  exact sameTexts_any A A' _ c c' l w hr hr'
theorem Sl.drewN {w : World} {v : Value} {l : List ByteArray} (h : Sl w v l) (k : Nat) : Sl (w.drewN k) v l := h
def SmRel (w : World) (n : Nat) (i : Value) (wr : World) : Prop := ∃ k : Nat, k ≤ n ∧ i = .int .i64 k ∧ ∃ q, wr = w.drewN q
theorem below_of_drewN {w w' : World} {q : Nat} (h : w' = w.drewN q) : Below w.heap.size w w' := by rw [h]; exact below_drewN w q

end Go.Proofs.Ytlkpbpecgdphaaa
namespace Go.Proofs.Ytlkpbpecgdphaaa
open Go.RowKit

theorem RdS.x {w : World} {B : Nat} {A : Option Addr} {n c : Nat} {l : List ByteArray} (h : RdS w B A n c l) : RdX w 1 A n (tcells l) :=
  ⟨by rw [tcells, List.length_map, h.1]; omega, tcells_one l, fun hn => by
    obtain ⟨b, off, e, _, hc⟩ := h.2.2.2 hn
    refine ⟨b, off, e, fun j u hu => ?_⟩
    rw [tcells, List.getElem?_map, Option.map_eq_some_iff] at hu
    obtain ⟨s, hs, rfl⟩ := hu
    exact hc j s hs⟩
theorem RdF.x {w : World} {B : Nat} {A : Option Addr} {n c : Nat} {l : List F} (h : RdF w B A n c l) : RdX w 2 A n (fcells l) :=
  ⟨by rw [fcells_len, h.1], fcells_one l, fun hn => by
    obtain ⟨b, off, e, _, hc⟩ := h.2.2.2 hn
    exact ⟨b, off, e, hc⟩⟩
theorem RdR.x {w : World} {B : Nat} {A : Option Addr} {n c : Nat} {R : List Row3} (h : RdR w B A n c R) (h1 : ∀ u ∈ rcells R, u.oneCell' = true) : RdX w 3 A n (rcells R) :=
  ⟨by rw [rcells_len, h.1], h1, fun hn => by
    obtain ⟨b, off, e, _, hc⟩ := h.2.2.2 hn
    exact ⟨b, off, e, hc⟩⟩
/-- Every cell of a rule that is read is one cell. -/
theorem MkRd.one {w : World} {m : Mk} {vv vr vp : Value} {R : List Row3} (h : MkRd w m vv vr vp R) : ∀ u ∈ rcells R, u.oneCell' = true := by
  intro u hu
  obtain ⟨j, hj, e⟩ := List.mem_iff_getElem.1 hu
  have hlen := rcells_len R
  have hi : j / 3 < R.length := by omega
  obtain ⟨x, hx⟩ : ∃ x, R[j / 3]? = some x := ⟨_, List.getElem?_eq_getElem hi⟩
  obtain ⟨y, hy⟩ : ∃ y, m.rules[j / 3]? = some y := ⟨_, List.getElem?_eq_getElem (by rw [← h.len]; exact hi)⟩
  obtain ⟨⟨_, _, e1, _⟩, ⟨_, _, e2, _⟩, ⟨_, _, e3, _⟩⟩ := h.each _ x y hx hy
  obtain ⟨h1, h2, h3⟩ := rcells_at hx
  have hu' : (rcells R)[j]? = some u := by rw [List.getElem?_eq_getElem hj, e]
  have h5 : j = j / 3 * 3 ∨ j = j / 3 * 3 + 1 ∨ j = j / 3 * 3 + 2 := by omega
  rcases h5 with h5 | h5 | h5
  · rw [h5, h1] at hu'; injection hu' with hu'; rw [← hu', e1]; rfl
  · rw [h5, h2] at hu'; injection hu' with hu'; rw [← hu', e2]; rfl
  · rw [h5, h3] at hu'; injection hu' with hu'; rw [← hu', e3]; rfl
end Go.Proofs.Ytlkpbpecgdphaaa
namespace Go.Proofs.Ytlkpbpecgdphaaa
open Go.RowKit

/-- A group by value whose rows are new from B on. -/
def GpOwn (w : World) (B : Nat) (v : Value) (g : Gp) : Prop := ∃ a b c, v = .agg #[a, b, c, .bool g.ph] ∧ Own1 w B a g.tg ∧ Own1 w B b g.nd ∧ Own1 w B c g.cm
theorem own1_below {w w' : World} {B : Nat} {v : Value} {l : List ByteArray} (h : Own1 w B v l) (hb : Below w.heap.size w w') : Own1 w' B v l := h.kept (grown_of_below hb) (by cases v.ownBlock <;> simp)
theorem own1_len {w : World} {B n : Nat} {v : Value} {l : List ByteArray} (h : w.ownsRow B tStr 1 v n (tcells l)) (hn : l.length = n) : Own1 w B v l := by subst hn; exact h
theorem GpOwn.below {w w' : World} {B : Nat} {v : Value} {g : Gp} (h : GpOwn w B v g) (hb : Below w.heap.size w w') : GpOwn w' B v g := by
  obtain ⟨a, b, c, e, h1, h2, h3⟩ := h
  exact ⟨a, b, c, e, own1_below h1 hb, own1_below h2 hb, own1_below h3 hb⟩
theorem GpOwn.mono {w : World} {B B' : Nat} {v : Value} {g : Gp} (h : GpOwn w B v g) (hB : B' ≤ B) : GpOwn w B' v g := by
  obtain ⟨a, b, c, e, h1, h2, h3⟩ := h
  exact ⟨a, b, c, e, h1.mono hB, h2.mono hB, h3.mono hB⟩
def NgRel (W : World) (B pg : Nat) (V1 V2 : Value) (cm : List ByteArray) (f : ByteArray → ByteArray) (n : Nat) (i : Value) (wr : World) : Prop :=
  ∃ (k : Nat) (V : Value), k ≤ n ∧ i = .int .i64 k ∧ wr.ownsRow B tStr 1 V k (tcells ((cm.take k).map f)) ∧ Blk wr pg tGr #[V1, V2, V, .bool false] ∧ Upd W wr (One pg)
theorem take_mapG {α : Type} {f : ByteArray → α} {l : List ByteArray} {k : Nat} {x : ByteArray} (h : l[k]? = some x) : (l.take (k + 1)).map f = (l.take k).map f ++ [f x] := by
  rw [List.take_add_one, h]; simp
end Go.Proofs.Ytlkpbpecgdphaaa
namespace Go.Proofs.Ytlkpbpecgdphaaa
open Go.RowKit

theorem joinB_snoc (l : List ByteArray) (x : ByteArray) : joinB (l ++ [x]) = if l = [] then x.data.toList else joinB l ++ 32 :: x.data.toList := by
  unfold joinB
  rcases l with _ | ⟨a, r⟩
  · simp [Lib.join_one]
  · rw [if_neg (by simp)]
    simp only [List.cons_append, List.map_cons, List.map_append, List.map_nil, Lib.join_cons]
    unfold Lib.joinTail
    simp
theorem joinB_step {l : List ByteArray} {m : Nat} {x : ByteArray} (h : l[m]? = some x) : joinB (l.take (m + 1)) = if m = 0 then x.data.toList else joinB (l.take m) ++ 32 :: x.data.toList := by
  have hm : m < l.length := (List.getElem?_eq_some_iff.1 h).1
  have e : l.take (m + 1) = l.take m ++ [x] := by
    rw [List.take_add_one, h]; rfl
  rw [e, joinB_snoc]
  by_cases h0 : m = 0
  · subst h0; simp
  · rw [if_neg h0, if_neg]
    intro hn
    rcases List.take_eq_nil_iff.1 hn with e | e
    · exact h0 e
    · rw [e] at hm; simp at hm
theorem joinB_mono (l : List ByteArray) (m d : Nat) : (joinB (l.take m)).length ≤ (joinB (l.take (m + d))).length := by
  induction d with
  | zero => exact Nat.le_refl _
  | succ d ih =>
    refine Nat.le_trans ih ?_
    rw [← Nat.add_assoc]
    cases hx : l[m + d]? with
    | none =>
      have hlen : l.length ≤ m + d := List.getElem?_eq_none_iff.1 hx
      rw [List.take_of_length_le hlen, List.take_of_length_le (by omega)]
      exact Nat.le_refl _
    | some x =>
      rw [joinB_step hx]
      split
      · rename_i e; rw [e]; simp [joinB, Lib.join_nil]
      · simp
theorem joinB_le (l : List ByteArray) (m : Nat) : (joinB (l.take m)).length ≤ (joinB l).length := by
  have := joinB_mono l m l.length
  rwa [List.take_of_length_le (l := l) (i := m + l.length) (by omega)] at this
theorem two_eq (s : ByteArray) (k : Nat) (h : k + 1 < s.size) (c : UInt8) : ((s.extract k (k + 2)).toList == [36, c]) = (decide (s[k] = 36) && decide (s[k + 1] = c)) := by
  rw [ByteArray.toList_eq, Lib.extract_data]
  have e : (s.data.toList.drop k).take (k + 2 - k) = [s[k], s[k + 1]] := by
    rw [show k + 2 - k = 2 by omega, List.drop_eq_getElem_cons (by simpa using (show k < s.size by omega)), List.drop_eq_getElem_cons (by simpa using h)]
    rfl
  rw [e]
  simp [Bool.and_comm]
  rfl
theorem one_data (s : ByteArray) (k : Nat) (h : k < s.size) : (s.extract k (k + 1)).data.toList = [s[k]] := by
  rw [Lib.extract_data, show k + 1 - k = 1 by omega, List.drop_eq_getElem_cons (by simpa using h)]
  rfl
theorem look2_at (v0 v1 v2 v3 s : ByteArray) (k : Nat) (h : k + 1 < s.size) : look2 v0 v1 v2 v3 (s.data.toList.drop k) = if s[k] = 36 then autoV v0 v1 v2 v3 s[k + 1] else none := by
  rw [List.drop_eq_getElem_cons (by simpa using (show k < s.size by omega)), List.drop_eq_getElem_cons (by simpa using h)]
  rfl
theorem look2_end (v0 v1 v2 v3 s : ByteArray) (k : Nat) (h : k + 1 = s.size) : look2 v0 v1 v2 v3 (s.data.toList.drop k) = none := by
  rw [List.drop_eq_getElem_cons (by simpa using (show k < s.size by omega)), List.drop_of_length_le (by simp; omega)]
  rfl
/-- Where the document's Auto stands. -/
def RaRel (v0 v1 v2 v3 s : ByteArray) (o i : Value) : Prop := ∃ (k : Nat) (t : ByteArray), k ≤ s.size ∧ i = .int .i64 k ∧ o = .string t ∧ t.data.toList ++ autoL v0 v1 v2 v3 (s.data.toList.drop k) = autoL v0 v1 v2 v3 s.data.toList
theorem RaRel.skip {v0 v1 v2 v3 s t : ByteArray} {k : Nat} (hk : k < s.size) (h : t.data.toList ++ autoL v0 v1 v2 v3 (s.data.toList.drop k) = autoL v0 v1 v2 v3 s.data.toList) (hn : look2 v0 v1 v2 v3 (s.data.toList.drop k) = none) :
    (t ++ s.extract k (k + 1)).data.toList ++ autoL v0 v1 v2 v3 (s.data.toList.drop (k + 1)) = autoL v0 v1 v2 v3 s.data.toList := by
  have hd : s.data.toList.drop k = s.data.toList[k]'(by simpa using hk) :: s.data.toList.drop (k + 1) := List.drop_eq_getElem_cons (by simpa using hk)
  rw [autoL_none v0 v1 v2 v3 hd hn] at h
  rw [data_append, one_data s k hk, ← h]
  simp
  rfl
theorem RaRel.hit {v0 v1 v2 v3 s t v : ByteArray} {k : Nat} (h : t.data.toList ++ autoL v0 v1 v2 v3 (s.data.toList.drop k) = autoL v0 v1 v2 v3 s.data.toList) (hn : look2 v0 v1 v2 v3 (s.data.toList.drop k) = some v) :
    (t ++ v).data.toList ++ autoL v0 v1 v2 v3 (s.data.toList.drop (k + 2)) = autoL v0 v1 v2 v3 s.data.toList := by
  obtain ⟨b, c, r, e1, e2⟩ := autoL_some v0 v1 v2 v3 hn
  have hr : s.data.toList.drop (k + 2) = r := by rw [← List.drop_drop, e1]; rfl
  rw [e2] at h
  rw [data_append, hr, ← h]
  simp
theorem RaRel.bound {v0 v1 v2 v3 s t : ByteArray} {k : Nat} (h : t.data.toList ++ autoL v0 v1 v2 v3 (s.data.toList.drop k) = autoL v0 v1 v2 v3 s.data.toList) (hl : (autoL v0 v1 v2 v3 s.data.toList).length ≤ 1000000000) : t.size ≤ 1000000000 := by
  have : t.data.toList.length ≤ (autoL v0 v1 v2 v3 s.data.toList).length := by rw [← h]; simp
  have e : t.data.toList.length = t.size := by simp
  omega
def JnRel (l : List ByteArray) (n : Nat) (x j : Value) : Prop := ∃ (m : Nat) (y : ByteArray), m ≤ n ∧ j = .int .i64 m ∧ x = .string y ∧ y.data.toList = joinB (l.take m)

set_option maxRecDepth 100000 in
set_option maxHeartbeats 3200000 in
theorem refAuto_any (s stem : ByteArray) (At An : Option Addr) (nt ct nn cn : Nat) (lt ln : List ByteArray) (w : World) (ht : RdS w w.heap.size At nt ct lt) (hn : RdS w w.heap.size An nn cn ln)
    (hnt : 1 ≤ nt) (hnn : nn ≤ 1000000) (hs : s.size ≤ 1000000) (hj : (joinB ln).length ≤ 1000000) (hLen : (autoT s lt ln stem).length ≤ 1000000000) :
    Calls Try.prog 71 #[.string s, .slice At nt ct, .slice An nn cn, .string stem] w fun e w' => e = .returned (.string (ba (autoT s lt ln stem))) ∧ w = w' := by
  have HN := Lib.hid hn
  obtain ⟨x0, r0, rfl⟩ : ∃ x r, lt = x :: r := by
    rcases lt with _ | ⟨x, r⟩
    · have := ht.1; simp at this; omega
    · exact ⟨x, r, rfl⟩
  obtain ⟨b0, off0, rfl, _, hc0⟩ := ht.at_ (i := 0) (f := x0) rfl
  have hc0 : w.cell? ⟨b0, off0, none⟩ = some (.string x0) := hc0
  have hp0 : (0 : Int) < (nt : Int) := by omega
  have hv0 : headT (x0 :: r0) = x0 := rfl
  unfold autoT at hLen ⊢
  rw [hv0] at hLen ⊢
  clear ht hn hv0
  obtain ⟨v1, hv1⟩ : ∃ v1, headT ln = v1 := ⟨_, rfl⟩
  obtain ⟨v2, hv2⟩ : ∃ v2, ba (joinB ln) = v2 := ⟨_, rfl⟩
  rw [hv1, hv2] at hLen ⊢
  have HV1 := Lib.hid hv1
  have HV2 := Lib.hid hv2
  clear hv1 hv2
  go_enter Try.func71, Try.ntmps71
  go_wp2
  go_loop [9, 10] (fun o i => RaRel x0 v1 v2 stem s o i) (fun _ i => s.size - (intOf i).toNat)
  case atStart => exact ⟨0, ⟨#[]⟩, Nat.zero_le _, rfl, rfl, rfl⟩
  case round =>
    obtain ⟨k, t, hk, rfl, rfl, hin⟩ := hrel
    have HI := Lib.hid hin
    clear hin
    by_cases hlt : k < s.size
    · by_cases h1 : k + 1 < s.size
      · have hL := look2_at x0 v1 v2 stem s k h1
        have p1 := two_eq s k h1 64
        have p2 := two_eq s k h1 60
        have p3 := two_eq s k h1 94
        have p4 := two_eq s k h1 42
        have hbt := RaRel.bound HI.out hLen
        by_cases ha : s[k] = 36
        · rw [if_pos ha] at hL
          simp only [ha, decide_true, Bool.true_and] at p1 p2 p3 p4
          by_cases hb1 : s[k + 1] = 64
          · have HNX := Lib.hid (RaRel.hit (v := x0) HI.out (by rw [hL, hb1]; rfl))
            have hbd := RaRel.bound HNX.out hLen
            rw [ByteArray.size_append] at hbd
            have q1 : ((s.extract k (k + 2)).toList == [36, 64]) = true := by rw [p1, hb1]; rfl
            clear hL p1 p2 p3 p4 ha hb1
            go_wp2
            go_round
            case rel => exact ⟨k + 2, t ++ x0, by omega, by go_num, rfl, HNX.out⟩
            case measure => simp [intOf]; omega
          · have q1 : ((s.extract k (k + 2)).toList == [36, 64]) = false := by rw [p1, decide_eq_false hb1]
            clear p1
            by_cases hb2 : s[k + 1] = 60
            · have q2 : ((s.extract k (k + 2)).toList == [36, 60]) = true := by rw [p2, hb2]; rfl
              have HNX := Lib.hid (RaRel.hit (v := v1) HI.out (by rw [hL, hb2]; rfl))
              have hbd := RaRel.bound HNX.out hLen
              rw [ByteArray.size_append] at hbd
              clear hL p2 p3 p4 ha hb1 hb2
              by_cases h0 : nn = 0
              · have e1 : v1 = ⟨#[]⟩ := by
                  have hl := HN.out.1
                  have : ln = [] := List.eq_nil_of_length_eq_zero (by omega)
                  rw [← HV1.out, this]
                  rfl
                have HE := Lib.hid e1
                have hz : decide ((0 : Int) < (nn : Int)) = false := decide_eq_false (by omega)
                have hz2 : decide (0 < nn) = false := decide_eq_false (by omega)
                clear h0 e1
                go_wp2
                go_round
                case rel => exact ⟨k + 2, t ++ ⟨#[]⟩, by omega, by go_num, rfl, by have := HNX.out; rwa [show t ++ v1 = t ++ ⟨#[]⟩ by rw [HE.out]] at this⟩
                case measure => simp [intOf]; omega
              · obtain ⟨y, r1, hy⟩ : ∃ y r, ln = y :: r := by
                  rcases ln with _ | ⟨y, r⟩
                  · have := HN.out.1; simp at this; omega
                  · exact ⟨y, r, rfl⟩
                have hy0 : ln[0]? = some y := by rw [hy]; rfl
                have e1 : v1 = y := by rw [← HV1.out, hy]; rfl
                obtain ⟨b1, off1, rfl, _, hc1⟩ := HN.out.at_ hy0
                have hc1 : w.cell? ⟨b1, off1, none⟩ = some (.string y) := hc1
                have hz : (0 : Int) < (nn : Int) := by omega
                have hz2 : 0 < nn := by omega
                have HE := Lib.hid e1
                rw [e1] at hbd
                clear h0 e1 hy hy0
                go_wp2
                go_round
                case rel => exact ⟨k + 2, t ++ y, by omega, by go_num, rfl, by have := HNX.out; rwa [show t ++ v1 = t ++ y by rw [HE.out]] at this⟩
                case measure => simp [intOf]; omega
            · have q2 : ((s.extract k (k + 2)).toList == [36, 60]) = false := by rw [p2, decide_eq_false hb2]
              clear p2
              by_cases hb3 : s[k + 1] = 94
              · have q3 : ((s.extract k (k + 2)).toList == [36, 94]) = true := by rw [p3, hb3]; rfl
                have HNX := Lib.hid (RaRel.hit (v := v2) HI.out (by rw [hL, hb3]; rfl))
                have hbd := RaRel.bound HNX.out hLen
                rw [ByteArray.size_append] at hbd
                clear hL p3 p4 ha hb1 hb2 hb3
                go_wp2
                go_loop [12, 13] (fun x j => JnRel ln nn x j) (fun _ j => nn - (intOf j).toNat)
                case atStart => exact ⟨0, ⟨#[]⟩, Nat.zero_le _, rfl, rfl, rfl⟩
                case round =>
                  obtain ⟨m, y, hm, rfl, rfl, hy⟩ := hrel
                  have hys : y.size ≤ 1000000 := by
                    have e : y.data.toList.length = y.size := by simp
                    have := joinB_le ln m
                    rw [← hy] at this
                    omega
                  by_cases hlm : m < nn
                  · obtain ⟨x, hx⟩ : ∃ x, ln[m]? = some x := ⟨ln[m]'(by have := HN.out.1; omega), List.getElem?_eq_getElem _⟩
                    obtain ⟨b1, off1, rfl, _, hc1⟩ := HN.out.at_ hx
                    have hst := joinB_step hx
                    have hxs : (joinB (ln.take (m + 1))).length ≤ 1000000 := Nat.le_trans (joinB_le ln (m + 1)) hj
                    have hxz : x.size ≤ 1000000 := by
                      have e : x.data.toList.length = x.size := by simp
                      rw [hst] at hxs
                      split at hxs
                      · omega
                      · simp at hxs e; omega
                    by_cases h0 : m = 0
                    · subst h0
                      have HS := Lib.hid (show (y ++ x).data.toList = joinB (ln.take 1) by
                        have : y.data.toList = [] := hy
                        rw [data_append, this, hst]; rfl)
                      clear hst hxs hy hx
                      have hc1 : w.cell? ⟨b1, off1, none⟩ = some (.string x) := hc1
                      go_wp2
                      go_round
                      case rel => exact ⟨1, y ++ x, by omega, by go_num, rfl, HS.out⟩
                      case measure => simp [intOf]; omega
                    · have HS := Lib.hid (show (y ++ ⟨#[32]⟩ ++ x).data.toList = joinB (ln.take (m + 1)) by
                        rw [data_append, data_append, hy, hst, if_neg h0]; simp)
                      have hz : (0 : Int) < (m : Int) := by omega
                      have hz2 : 0 < m := by omega
                      clear hst hxs hy hx h0
                      go_wp2
                      go_round
                      case rel => exact ⟨m + 1, y ++ ⟨#[32]⟩ ++ x, by omega, by go_num, rfl, HS.out⟩
                      case measure => simp [intOf]; omega
                  · have e1 : v2 = y := by
                      rw [← HV2.out, ← ba_of y, hy, List.take_of_length_le (by have := HN.out.1; omega)]
                    have HE := Lib.hid e1
                    rw [e1] at hbd
                    clear e1 hy
                    go_wp2
                    go_round
                    case rel => exact ⟨k + 2, t ++ y, by omega, by go_num, rfl, by have := HNX.out; rwa [show t ++ v2 = t ++ y by rw [HE.out]] at this⟩
                    case measure => simp [intOf]; omega
              · have q3 : ((s.extract k (k + 2)).toList == [36, 94]) = false := by rw [p3, decide_eq_false hb3]
                clear p3
                by_cases hb4 : s[k + 1] = 42
                · have q4 : ((s.extract k (k + 2)).toList == [36, 42]) = true := by rw [p4, hb4]; rfl
                  have HNX := Lib.hid (RaRel.hit (v := stem) HI.out (by rw [hL, hb4]; rfl))
                  have hbd := RaRel.bound HNX.out hLen
                  rw [ByteArray.size_append] at hbd
                  clear hL p4 ha hb1 hb2 hb3 hb4
                  go_wp2
                  go_round
                  case rel => exact ⟨k + 2, t ++ stem, by omega, by go_num, rfl, HNX.out⟩
                  case measure => simp [intOf]; omega
                · have q4 : ((s.extract k (k + 2)).toList == [36, 42]) = false := by rw [p4, decide_eq_false hb4]
                  have HNX := Lib.hid (RaRel.skip hlt HI.out (by rw [hL]; unfold autoV; rw [if_neg hb1, if_neg hb2, if_neg hb3, if_neg hb4]))
                  clear hL p4 ha hb1 hb2 hb3 hb4
                  go_wp2
                  go_round
                  case rel => exact ⟨k + 1, t ++ s.extract k (k + 1), by omega, by go_num, rfl, HNX.out⟩
                  case measure => simp [intOf]; omega
        · have HNX := Lib.hid (RaRel.skip hlt HI.out (by rw [hL, if_neg ha]))
          simp only [decide_eq_false ha, Bool.false_and] at p1 p2 p3 p4
          clear hL ha
          go_wp2
          go_round
          case rel => exact ⟨k + 1, t ++ s.extract k (k + 1), by omega, by go_num, rfl, HNX.out⟩
          case measure => simp [intOf]; omega
      · have HNX := Lib.hid (RaRel.skip hlt HI.out (look2_end _ _ _ _ s k (by omega)))
        have hbt := RaRel.bound HI.out hLen
        have hd : decide ((k : Int) + 1 < (s.size : Int)) = false := decide_eq_false (by omega)
        go_wp2
        go_round
        case rel => exact ⟨k + 1, t ++ s.extract k (k + 1), by omega, by go_num, rfl, HNX.out⟩
        case measure => simp [intOf]; omega
    · have hk2 : k = s.size := by omega
      have HF := Lib.hid (show ba (autoL x0 v1 v2 stem s.data.toList) = t by
        have := HI.out
        rw [List.drop_of_length_le (by simp; omega)] at this
        rw [← this]
        simp [autoL, ba])
      clear hk2
      go_wp2
      go_ret
      exact ⟨by rw [HF.out]; rfl, rfl⟩
end Go.Proofs.Ytlkpbpecgdphaaa
namespace Go.Proofs.Ytlkpbpecgdphaaa
open Go

theorem autoL_lenG (v0 v1 v2 v3 : ByteArray) (M : Nat) (h0 : v0.size ≤ M) (h1 : v1.size ≤ M) (h2 : v2.size ≤ M) (h3 : v3.size ≤ M) : ∀ s : Bs, (autoL v0 v1 v2 v3 s).length ≤ s.length * (M + 1)
  | [] => by simp [autoL]
  | [b] => by simp [autoL]
  | b :: c :: r => by
    have ih1 := autoL_lenG v0 v1 v2 v3 M h0 h1 h2 h3 r
    have ih2 := autoL_lenG v0 v1 v2 v3 M h0 h1 h2 h3 (c :: r)
    simp only [autoL]
    split
    · rename_i v hv
      have hvs : v.data.toList.length ≤ M := by
        have e : ∀ x : ByteArray, x.data.toList.length = x.size := fun x => by simp
        rw [e]
        split at hv
        · unfold autoV at hv
          split at hv
          · obtain rfl := Option.some.inj hv; exact h0
          · split at hv
            · obtain rfl := Option.some.inj hv; exact h1
            · split at hv
              · obtain rfl := Option.some.inj hv; exact h2
              · split at hv
                · obtain rfl := Option.some.inj hv; exact h3
                · cases hv
        · cases hv
      rw [List.length_append]
      simp only [List.length_cons, Nat.add_mul] at *
      omega
    · simp only [List.length_cons, Nat.add_mul] at *
      omega
theorem joinB_lenG (M : Nat) : ∀ l : List ByteArray, (∀ x ∈ l, x.size ≤ M) → (joinB l).length ≤ l.length * (M + 1) := by
  intro l
  have key : ∀ m, m ≤ l.length → (∀ x ∈ l, x.size ≤ M) → (joinB (l.take m)).length ≤ m * (M + 1) := by
    intro m
    induction m with
    | zero => intro _ _; simp [joinB, Lib.join_nil]
    | succ m ih =>
      intro hm hx
      have h1 := ih (by omega) hx
      have hg : l[m]? = some (l[m]'(by omega)) := List.getElem?_eq_getElem (by omega)
      have h2 := hx (l[m]'(by omega)) (List.getElem_mem _)
      have e : ∀ x : ByteArray, x.data.toList.length = x.size := fun x => by simp
      rw [joinB_step hg]
      split
      · rw [e, Nat.add_mul]; omega
      · rw [List.length_append, List.length_cons, e, Nat.add_mul]; omega
  intro hx
  have := key l.length (Nat.le_refl _) hx
  rwa [List.take_length] at this
theorem grp_short {cm tg nd : List ByteArray} {stem : ByteArray} (hc : ∀ x ∈ cm, x.size ≤ 1000) (ht : ∀ x ∈ tg, x.size ≤ 1000) (hn : ∀ x ∈ nd, x.size ≤ 2000) (hl : nd.length ≤ 10) (hs : stem.size ≤ 1000) :
    (joinB nd).length ≤ 1000000 ∧ ∀ c ∈ cm, (autoT c tg nd stem).length ≤ 1000000000 := by
  have h1 := joinB_lenG 2000 nd hn
  have h2 : nd.length * (2000 + 1) ≤ 10 * 2001 := Nat.mul_le_mul hl (Nat.le_refl _)
  refine ⟨by omega, fun c h => ?_⟩
  have hh : ∀ (l : List ByteArray) (k : Nat), (∀ x ∈ l, x.size ≤ k) → (headT l).size ≤ k := by
    intro l k h
    unfold headT
    cases l with
    | nil => exact Nat.zero_le _
    | cons x l => exact h x (by simp)
  have h3 := autoL_lenG (headT tg) (headT nd) (ba (joinB nd)) stem 20010 (by have := hh tg 1000 ht; omega) (by have := hh nd 2000 hn; omega) (by rw [ba_size]; omega) (by omega) c.data.toList
  have h4 := hc c h
  have h5 : c.data.toList.length = c.size := by simp
  have h6 : c.data.toList.length * (20010 + 1) ≤ 1000 * 20011 := Nat.mul_le_mul (by omega) (Nat.le_refl _)
  show (autoL _ _ _ _ _).length ≤ _
  omega
end Go.Proofs.Ytlkpbpecgdphaaa
namespace Go.Proofs.Ytlkpbpecgdphaaa
open Go.RowKit

abbrev zeroG : Array Value := #[.slice none 0 0, .slice none 0 0, .slice none 0 0, .bool false]
def GrPost (m : Mk) (l : List F) (name : ByteArray) (w : World) (e : Ending) (w' : World) : Prop :=
  ∃ a b c ph, e = .returned (.tuple #[.agg #[a, b, c, .bool ph], .bool (grpR m l name).isSome]) ∧ (∀ g, grpR m l name = some g → GpOwn w' w.heap.size (.agg #[a, b, c, .bool ph]) g) ∧ Below w.heap.size w w' ∧ (∃ A n k, a = .slice A n k) ∧ (∃ A n k, b = .slice A n k) ∧ ∃ A n k, c = .slice A n k
end Go.Proofs.Ytlkpbpecgdphaaa
namespace Go.Proofs.Ytlkpbpecgdphaaa
open Go.RowKit

theorem Upd.blk {w w' : World} {b k : Nat} {t : TypeId} {cs : Array Value} (h : Upd w w' (One b)) (hb : Blk w k t cs) (hne : k ≠ b) : Blk w' k t cs := (h.block k hb.lt hne).trans hb
theorem Blk.four {w : World} {b p : Nat} {t : TypeId} {cs : Array Value} (h : Blk w b t cs) (hne : b ≠ p) (a0 a1 a2 a3 : Value) : Blk ((((w.setCell ⟨p, 0, none⟩ a0).setCell ⟨p, 1, none⟩ a1).setCell ⟨p, 2, none⟩ a2).setCell ⟨p, 3, none⟩ a3) b t cs :=
  Blk.other (Blk.other (Blk.other (Blk.other h hne a0) hne a1) hne a2) hne a3
end Go.Proofs.Ytlkpbpecgdphaaa
