/-
  WALKS: the document's reader of a record's text: text; its steps in one form. PLAIN: what its result comes to.
-/
import Derived.Test.YtpghfefiifhbiaaGreatDoorRcRd
import Derived.Test.YtpghfefiifhbiaaGreatDoorRcR
namespace Go.Proofs.YtpghfefiifhbiaaGreatDoor
open Go.RowKit Go.Sort

/-- The document's reader at block b: what is left, or: something was wrong. -/
def Sq (w : World) (b : Nat) (st : St) (N : Nat) : Prop := ∃ (s : Bs) (bad : Bool), Rq w b s bad ∧ s.length ≤ N ∧ ((st = some s ∧ bad = false) ∨ (st = none ∧ bad = true))
theorem Sq.lt {w : World} {b : Nat} {st : St} {N : Nat} (h : Sq w b st N) : b < w.heap.size := by obtain ⟨s, bad, h, _⟩ := h; exact Blk.lt h
/-- A number, in that form. -/
def SnP (b most N : Nat) (o : Option (Nat × Bs)) (w : World) (e : Ending) (w' : World) : Prop := Upd w w' (One b) ∧ Sq w' b (sOf o) N ∧ ∃ n : Nat, e = .returned (.int .i64 n) ∧ n ≤ most ∧ ∀ p, o = some p → n = p.1
theorem snumber_any (b most N : Nat) (c : UInt8) (st : St) (w : World) (h : Sq w b st N) (hN : N ≤ 900000) (hm : most ≤ 1000) :
    Calls Tryz.prog 35 #[ptr b, .string ⟨#[c]⟩, .int .i64 most] w (SnP b most N (st.bind (rnumO c most)) w) := by
  obtain ⟨s, bad, hr, hl, hc⟩ := h
  refine (rnumber_any b most c s bad w hr (by omega) hm).mono ?_
  rintro e w' ⟨hu, n, s', bad', rfl, hn, hr', hl', hb1, hb2⟩
  rcases hc with ⟨rfl, rfl⟩ | ⟨rfl, rfl⟩
  · have hm2 := hb2 rfl
    show SnP b most N (rnumO c most s) w _ w'
    cases ho : rnumO c most s with
    | none =>
      rw [ho] at hm2
      have e : bad' = true := hm2
      subst e
      exact ⟨hu, ⟨s', true, hr', by omega, .inr ⟨rfl, rfl⟩⟩, n, rfl, hn, fun p hp => by cases hp⟩
    | some p =>
      rw [ho] at hm2
      obtain ⟨e1, e2, e3⟩ := hm2
      subst e1 e2 e3
      exact ⟨hu, ⟨p.2, false, hr', by omega, .inl ⟨rfl, rfl⟩⟩, p.1, rfl, hn, fun p' hp => by injection hp with hp; rw [hp]⟩
  · have e := hb1 rfl
    subst e
    exact ⟨hu, ⟨s', true, hr', by omega, .inr ⟨rfl, rfl⟩⟩, n, rfl, hn, fun p hp => by cases hp⟩
/-- A word, in that form. -/
def SwP (b N : Nat) (o : Option (Bs × Bs)) (w : World) (e : Ending) (w' : World) : Prop := Upd w w' (One b) ∧ Sq w' b (sOf o) N ∧ ∃ x : Bs, e = .returned (.string (ba x)) ∧ x.length ≤ N ∧ ∀ p, o = some p → x = p.1
theorem sword_any (b N : Nat) (c : UInt8) (st : St) (w : World) (h : Sq w b st N) (hN : N ≤ 900000) :
    Calls Tryz.prog 37 #[ptr b, .string ⟨#[c]⟩] w (SwP b N (st.bind (wordO c)) w) := by
  obtain ⟨s, bad, hr, hl, hc⟩ := h
  refine (word_any b c s bad w hr (by omega)).mono ?_
  rintro e w' ⟨hu, hm2⟩
  have key : ∀ (o : Option (Bs × Bs)), (∀ p, o = some p → wordO c s = some p ∧ bad = false) → (o = none → wordO c s = none ∨ bad = true) → SwP b N o w e w' := by
    intro o h1 h2
    cases hw : wordO c s with
    | none =>
      rw [hw] at hm2
      obtain ⟨rfl, hr'⟩ := hm2
      cases o with
      | some p => have := (h1 p rfl).1; rw [hw] at this; cases this
      | none => exact ⟨hu, ⟨s, true, hr', hl, .inr ⟨rfl, rfl⟩⟩, [], rfl, Nat.zero_le _, fun p hp => by cases hp⟩
    | some q =>
      rw [hw] at hm2
      obtain ⟨rfl, hr'⟩ := hm2
      have hql := word_len hw
      cases o with
      | some p =>
        obtain ⟨e1, e2⟩ := h1 p rfl
        rw [hw] at e1
        injection e1 with e1
        subst e1 e2
        exact ⟨hu, ⟨q.2, false, hr', by omega, .inl ⟨rfl, rfl⟩⟩, q.1, rfl, by omega, fun p' hp => by injection hp with hp; rw [hp]⟩
      | none =>
        rcases h2 rfl with h3 | h3
        · rw [hw] at h3; cases h3
        · subst h3
          exact ⟨hu, ⟨q.2, true, hr', by omega, .inr ⟨rfl, rfl⟩⟩, q.1, rfl, by omega, fun p hp => by cases hp⟩
  rcases hc with ⟨rfl, rfl⟩ | ⟨rfl, rfl⟩
  · exact key _ (fun p hp => ⟨hp, rfl⟩) (fun hp => .inl hp)
  · exact key _ (fun p hp => by cases hp) (fun _ => .inr rfl)

/-- A text. -/
def StP (b most N : Nat) (o : Option (ByteArray × Bs)) (w : World) (e : Ending) (w' : World) : Prop := Upd w w' (One b) ∧ Sq w' b (sOf o) N ∧ ∃ t : ByteArray, e = .returned (.string t) ∧ t.size ≤ most ∧ ∀ p, o = some p → t = p.1
theorem rtx_eq (most : Nat) (st : St) : st.bind (rtxO most) = (st.bind (rnumO 58 most)).bind fun p => if p.2[p.1]? = some 32 then some (ba (p.2.take p.1), p.2.drop (p.1 + 1)) else none := by
  cases st <;> rfl
set_option maxRecDepth 100000 in
set_option maxHeartbeats 4000000 in
theorem stext_any (b most N : Nat) (st : St) (w : World) (h : Sq w b st N) (hN : N ≤ 900000) (hm : most ≤ 1000) :
    Calls Tryz.prog 36 #[ptr b, .int .i64 most] w (StP b most N (st.bind (rtxO most)) w) := by
  have HN := Lib.hid (snumber_any b most N 58 st w h hN hm)
  have HE := Lib.hid (rtx_eq most st)
  unfold ptr at *
  clear h
  go_enter Tryz.func36, Tryz.ntmps36
  go_wp2_with fail
  refine HN.out.mono ?_
  rintro e w2 ⟨hu, ⟨s, bad, hr, hl, hc⟩, n, rfl, hn, hp⟩
  have HU := Lib.hid hu
  have HC := Lib.hid hc
  have HP := Lib.hid hp
  have HR := Lib.hid hr
  have c0 : w2.cell? ⟨b, 0, none⟩ = some (.string (ba s)) := Blk.cell hr 0
  have c1 : w2.cell? ⟨b, 1, none⟩ = some (.bool bad) := Blk.cell hr 1
  have f0 := Blk.free hr 0
  have f1 := Blk.free hr 1
  have hsz := ba_size s
  -- where the text is not there
  have HBAD : Hid (s[n]? ≠ some 32 → StP b most N (st.bind (rtxO most)) w (.returned (.string ⟨#[]⟩)) (w2.setCell ⟨b, 1, none⟩ (.bool true))) := Lib.hid (fun hne => by
    have hnone : st.bind (rtxO most) = none := by
      rw [HE.out]
      cases ho : st.bind (rnumO 58 most) with
      | none => rfl
      | some p =>
        have e1 := hp p ho
        rw [ho] at hc
        rcases hc with ⟨e2, _⟩ | ⟨e2, _⟩
        · have e3 : p.2 = s := by injection e2
          rw [Option.bind_some, if_neg (by rw [e3, ← e1]; exact hne)]
        · cases e2
    rw [hnone]
    exact ⟨hu.setOne 1 _, ⟨s, true, Blk.set hr 1 _, hl, .inr ⟨rfl, rfl⟩⟩, ⟨#[]⟩, rfl, Nat.zero_le _, fun p hp => by cases hp⟩)
  clear hu hc hp hr HN
  by_cases hlt : n < s.length
  · have hz1 : decide (((ba s).size : Int) ≤ (n : Int)) = false := decide_eq_false (by omega)
    have hnl : n < (ba s).size := by omega
    have hnz : (n : Int) < ((ba s).size : Int) := by omega
    have hget : (ba s)[n] = s[n] := by simp [ba]; rfl
    by_cases h32 : s[n] = 32
    · have ht : ((((ba s)[n]).toNat : Int) == 32) = true := by rw [hget, h32]; rfl
      have ht2 : ((((ba s)[n]).toNat : Int) != 32) = false := by rw [hget, h32]; rfl
      have HTK := Lib.hid (ba_take s n)
      have HDR := Lib.hid (ba_drop s (n + 1))
      have hk1 : (n : Int) + 1 ≤ ((ba s).size : Int) := by omega
      have hk2 : (n : Int) ≤ ((ba s).size : Int) := by omega
      have hk3 : ((n : Int) + 1).toNat = n + 1 := by omega
      have H32 := Lib.hid (show s[n]? = some 32 from (List.getElem?_eq_getElem hlt).trans (congrArg some h32))
      clear h32 hget HBAD hsz
      go_wp2
      go_ret
      rw [HTK.out, HDR.out]
      have htl : (ba (s.take n)).size ≤ most := by rw [ba_size, List.length_take]; omega
      have hdl : (s.drop (n + 1)).length ≤ N := by rw [List.length_drop]; omega
      rcases HC.out with ⟨e2, e3⟩ | ⟨e2, e3⟩
      · obtain ⟨p, ho⟩ : ∃ p, st.bind (rnumO 58 most) = some p := by
          cases ho : st.bind (rnumO 58 most) with
          | none => rw [ho] at e2; cases e2
          | some p => exact ⟨p, rfl⟩
        rw [ho] at e2
        have e4 : p.2 = s := by injection e2
        have e5 := HP.out p ho
        have hres : st.bind (rtxO most) = some (ba (s.take n), s.drop (n + 1)) := by
          rw [HE.out, ho, Option.bind_some, e4, ← e5, if_pos H32.out]
        rw [hres]
        refine ⟨HU.out.setOne 0 _, ⟨s.drop (n + 1), bad, Blk.set HR.out 0 _, hdl, .inl ⟨rfl, e3⟩⟩, _, rfl, htl, fun q hq => by injection hq with hq; rw [← hq]⟩
      · have ho : st.bind (rnumO 58 most) = none := by
          cases ho : st.bind (rnumO 58 most) with
          | none => rfl
          | some p => rw [ho] at e2; cases e2
        have hres : st.bind (rtxO most) = none := by rw [HE.out, ho]; rfl
        rw [hres]
        exact ⟨HU.out.setOne 0 _, ⟨s.drop (n + 1), bad, Blk.set HR.out 0 _, hdl, .inr ⟨rfl, e3⟩⟩, _, rfl, htl, fun q hq => by cases hq⟩
    · have hn32 : ¬ ((ba s)[n]).toNat = 32 := by rw [hget]; intro e; exact h32 (UInt8.toNat_inj.1 (by rw [e]; rfl))
      have ht : ((((ba s)[n]).toNat : Int) == 32) = false := by rw [beq_eq_false_iff_ne]; omega
      have ht2 : ((((ba s)[n]).toNat : Int) != 32) = true := by simp [bne, ht]
      have HB := Lib.hid (HBAD.out (by rw [List.getElem?_eq_getElem hlt]; intro e; injection e with e; exact h32 e))
      clear h32 hget hn32 HBAD hsz
      go_wp2
      go_ret
      exact HB.out
  · have hz1 : ((ba s).size : Int) ≤ (n : Int) := by omega
    have HB := Lib.hid (HBAD.out (by rw [List.getElem?_eq_none (by omega)]; simp))
    clear HBAD hsz
    go_wp2
    go_ret
    exact HB.out

theorem fin_gen {p : Bs → Option (ByteArray × Bs)} {f : Bs → Option (F × Bs)} {x0 : Bs} {a b c : Nat} {l0 : List ByteArray} {l1 l2 : List F} {sx sy sz : St}
    (hx : Sofar ((some x0 : St).bind (manyO p a)) a l0 sx) (hy : Sofar (sx.bind (manyO f b)) b l1 sy) (hz : Sofar (sy.bind (manyO f c)) c l2 sz) :
    ((manyO p a x0).bind fun x => (manyO f b x.2).bind fun y => (manyO f c y.2).bind fun z => if z.2 = [] then some (x.1, y.1, z.1) else none) = if sz = some [] then some (l0, l1, l2) else (none : Option Rcd) := by
  obtain ⟨_, x2, x3⟩ := hx
  obtain ⟨_, y2, y3⟩ := hy
  obtain ⟨_, z2, z3⟩ := hz
  rw [Option.bind_some] at x2 x3
  cases hX : manyO p a x0 with
  | none =>
    rw [hX] at x2
    have : sx = none := x2
    subst this
    have : sy = none := y2
    subst this
    have : sz = none := z2
    subst this
    rfl
  | some x =>
    rw [hX] at x2
    have : sx = some x.2 := x2
    subst this
    simp only [Option.bind_some] at y2 y3 ⊢
    cases hY : manyO f b x.2 with
    | none =>
      rw [hY] at y2
      have : sy = none := y2
      subst this
      have : sz = none := z2
      subst this
      rfl
    | some y =>
      rw [hY] at y2
      have : sy = some y.2 := y2
      subst this
      simp only [Option.bind_some] at z2 z3 ⊢
      cases hZ : manyO f c y.2 with
      | none =>
        rw [hZ] at z2
        have : sz = none := z2
        subst this
        rfl
      | some z =>
        rw [hZ] at z2
        have : sz = some z.2 := z2
        subst this
        simp only [Option.bind_some]
        rw [x3 x hX, y3 y hY, z3 z hZ]
        by_cases h0 : z.2 = []
        · rw [if_pos h0, if_pos (by rw [h0])]
        · rw [if_neg h0, if_neg (by simpa using h0)]
/-- The document's reader, whole, by its steps. -/
theorem rrec_fin {ok : ByteArray → Bool} {s : Bs} {o1 o2 o3 : Option (Nat × Bs)} {a b c : Nat} {l0 : List ByteArray} {l1 l2 : List F} {sx sy sz : St}
    (h1 : o1 = (some (s ++ [32]) : St).bind (rnumO 32 3)) (h2 : o2 = (sOf o1).bind (rnumO 32 3)) (h3 : o3 = (sOf o2).bind (rnumO 32 2)) (ha : ∀ p, o1 = some p → a = p.1) (hb : ∀ p, o2 = some p → b = p.1) (hc : ∀ p, o3 = some p → c = p.1)
    (hx : Sofar ((sOf o3).bind (manyO (rtxO 300) a)) a l0 sx) (hy : Sofar (sx.bind (manyO (rflO ok) b)) b l1 sy) (hz : Sofar (sy.bind (manyO (rflO ok) c)) c l2 sz) :
    recO ok s = if sz = some [] then some (l0, l1, l2) else none := by
  rw [← rec_same]
  unfold rrecO rhdO
  rw [Option.bind_some] at h1
  have hnone : o3 = none → (none : Option Rcd) = if sz = some [] then some (l0, l1, l2) else none := fun e => by
    rw [e] at hx
    have : sx = none := hx.2.1
    subst this
    have : sy = none := hy.2.1
    subst this
    have : sz = none := hz.2.1
    subst this
    rfl
  cases e1 : o1 with
  | none =>
    rw [e1] at h1 h2
    have : o2 = none := h2
    rw [this] at h3
    rw [← h1]
    exact hnone h3
  | some p1 =>
    rw [e1] at h1 h2
    rw [← h1, Option.bind_some]
    have h2' : o2 = rnumO 32 3 p1.2 := h2
    cases e2 : o2 with
    | none =>
      rw [e2] at h2' h3
      rw [← h2']
      exact hnone h3
    | some p2 =>
      rw [e2] at h2' h3
      rw [← h2', Option.bind_some]
      have h3' : o3 = rnumO 32 2 p2.2 := h3
      cases e3 : o3 with
      | none => rw [← h3', e3]; exact hnone e3
      | some p3 =>
        rw [← h3', e3, Option.bind_some]
        rw [e3] at hx
        rw [ha p1 e1] at hx
        rw [hb p2 e2] at hy
        rw [hc p3 e3] at hz
        exact fin_gen hx hy hz
end Go.Proofs.YtpghfefiifhbiaaGreatDoor
