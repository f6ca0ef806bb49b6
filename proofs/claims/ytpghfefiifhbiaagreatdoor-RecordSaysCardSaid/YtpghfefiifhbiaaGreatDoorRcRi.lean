/-
  WALK: hammerpondref.RecordIn: what it gives of a text.
-/
import Derived.Test.YtpghfefiifhbiaaGreatDoorRcRt
import Derived.Test.YtpghfefiifhbiaaGreatDoorRcS
import Derived.Test.YtpghfefiifhbiaaGreatDoorRcOr
namespace Go.Proofs.YtpghfefiifhbiaaGreatDoor
open Go.RowKit Go.Sort

theorem Sofar.nextG {α : Type} {p : Bs → Option (α × Bs)} {k : Nat} {l : List α} {st st0 st' : St} {a : α} (h : Sofar (st0.bind (manyO p k)) k l st) (h1 : st' = sOf (st.bind p)) (h2 : ∀ y, st.bind p = some y → a = y.1) : Sofar (st0.bind (manyO p (k + 1))) (k + 1) (l ++ [a]) st' := by
  obtain ⟨e1, e2, e3⟩ := h
  rw [many_step]
  cases ho : st0.bind (manyO p k) with
  | none =>
    rw [ho] at e2
    have e : st = none := e2
    subst e
    exact ⟨by rw [List.length_append, e1]; rfl, h1, fun x hx => by cases hx⟩
  | some y =>
    rw [ho] at e2
    have e : st = some y.2 := e2
    subst e
    rw [Option.bind_some] at h1 h2 ⊢
    refine ⟨by rw [List.length_append, e1]; rfl, ?_, fun x hx => ?_⟩
    · rw [h1]
      cases p y.2 <;> rfl
    · cases hp : p y.2 with
      | none => rw [hp] at hx; cases hx
      | some z =>
        rw [hp] at hx
        injection hx with hx
        rw [← hx, e3 y ho, h2 z hp]
theorem rfl_step {st : St} {x : Bs} {t : ByteArray} (hx : ∀ p, st.bind (wordO 32) = some p → x = p.1) (ht : ∀ p, (sOf (st.bind (wordO 32))).bind (rtxO 20) = some p → t = p.1) :
    (if nameB (ba x) = true then sOf ((sOf (st.bind (wordO 32))).bind (rtxO 20)) else none) = sOf (st.bind (rflO nameB)) ∧ ∀ y, st.bind (rflO nameB) = some y → (ba x, t) = y.1 := by
  cases st with
  | none =>
    refine ⟨?_, fun y hy => by cases hy⟩
    show (if _ then (none : St) else none) = none
    split <;> rfl
  | some s =>
    rw [Option.bind_some] at hx ht ⊢
    rw [Option.bind_some]
    unfold rflO
    cases hw : wordO 32 s with
    | none =>
      refine ⟨?_, fun y hy => by cases hy⟩
      show (if _ then (none : St) else none) = none
      split <;> rfl
    | some p =>
      rw [hw] at ht
      have e1 := hx p hw
      subst e1
      have e2 : (sOf (some p)).bind (rtxO 20) = rtxO 20 p.2 := rfl
      rw [e2] at ht ⊢
      rw [Option.bind_some]
      cases hr : rtxO 20 p.2 with
      | none =>
        refine ⟨?_, fun y hy => by cases hy⟩
        show (if _ then (none : St) else none) = none
        split <;> rfl
      | some q =>
        have e3 := ht q hr
        subst e3
        rw [Option.bind_some]
        by_cases hn : nameB (ba p.1) = true
        · rw [if_pos hn, if_pos hn]
          exact ⟨rfl, fun y hy => by injection hy with hy; rw [← hy]⟩
        · rw [if_neg hn, if_neg hn]
          exact ⟨rfl, fun y hy => by cases hy⟩
theorem Sq.bad {w : World} {b N : Nat} {st : St} (h : Sq w b st N) : Sq (w.setCell ⟨b, 1, none⟩ (.bool true)) b none N := by
  obtain ⟨s, bad, h1, h2, _⟩ := h
  exact ⟨s, true, Blk.set h1 1 _, h2, .inr ⟨rfl, rfl⟩⟩
theorem Sq.keep {w w' : World} {b N : Nat} {st : St} (h : Sq w b st N) (hb : w'.heap[b]? = w.heap[b]?) : Sq w' b st N := by
  obtain ⟨s, bad, h1, h2, h3⟩ := h
  exact ⟨s, bad, hb.trans h1, h2, h3⟩
theorem Sq.other {w : World} {b N k i : Nat} {st : St} (h : Sq w b st N) (hk : b ≠ k) (u : Value) : Sq (w.setCell ⟨k, i, none⟩ u) b st N := h.keep (Below.heap_setCell _ _ _ _ hk)
theorem Sq.grown {w w' : World} {b N base s n : Nat} {e : TypeId} {v : Value} {xs : List Value} {st : St} (h : Sq w b st N) (ho : w.ownsRow base e s v n xs) (hg : w.grownBy w' v.ownBlock) (ht : tRq ≠ e) : Sq w' b st N :=
  h.keep (hg.block b h.lt (fun e' => by obtain ⟨x, bad, h1, _⟩ := h; exact row_block_ne ho h1 ht e'.symm))
theorem Sq.alloc {w : World} {b N : Nat} {st : St} (h : Sq w b st N) (o : Obj) : Sq (w.alloc o) b st N := h.keep (Below.heap_alloc _ _ _ h.lt)
theorem Sq.ne {w : World} {b N base s n : Nat} {e : TypeId} {v : Value} {xs : List Value} {st : St} (h : Sq w b st N) (ho : w.ownsRow base e s v n xs) (ht : tRq ≠ e) : v.ownBlock ≠ some b := by
  obtain ⟨x, bad, h1, _⟩ := h
  exact row_block_ne ho h1 ht

theorem rows_apart {w : World} {B B' s s' n n' : Nat} {e e' : TypeId} {v v' : Value} {xs xs' : List Value} (h : w.ownsRow B e s v n xs) (h' : w.ownsRow B' e' s' v' n' xs') (ht : e ≠ e') (g : Nat) (hg : v.ownBlock = some g) : v'.ownBlock ≠ some g := by
  intro hg'
  rcases h.2 with ⟨rfl, _⟩ | ⟨g1, cap, cur, rfl, _, k1, _⟩
  · cases hg
  rcases h'.2 with ⟨rfl, _⟩ | ⟨g2, cap', cur', rfl, _, k2, _⟩
  · cases hg'
  obtain rfl : g1 = g := by injection hg
  obtain rfl : g2 = g1 := by injection hg'
  rw [k1] at k2
  injection k2 with k2
  injection k2 with _ k2 _
  exact ht k2
theorem own_grown {w w' : World} {base s n : Nat} {e : TypeId} {v u : Value} {xs : List Value} (h : w.ownsRow base e s v n xs) (hg : w.grownBy w' u.ownBlock) (hs : ∀ g, v.ownBlock = some g → u.ownBlock ≠ some g) : w'.ownsRow base e s v n xs :=
  ownsRow_kept h (fun g hv => hg.block g (h.lt g hv).2 (fun e' => hs g hv e'.symm))
theorem Sofar.zero {α : Type} {p : Bs → Option (α × Bs)} {st0 st : St} {l : List α} (h : Sofar (st0.bind (manyO p 0)) 0 l st) : l = [] ∧ st = st0 := by
  obtain ⟨h1, h2, _⟩ := h
  refine ⟨List.eq_nil_of_length_eq_zero h1, ?_⟩
  rw [h2]
  cases st0 <;> rfl

def QcRel (w : World) (b p0 pr n : Nat) (st0 : St) (N : Nat) (v9 : Value) (wr : World) : Prop :=
  ∃ (k : Nat) (l : List ByteArray) (st : St) (V : Value), k ≤ n ∧ v9 = .int .i64 k ∧ wr.ownsRow w.heap.size tStr 1 V k (tcells l) ∧ Blk wr pr tRec #[V, .slice none 0 0, .slice none 0 0] ∧ Blk wr p0 tRec zeroR ∧ Sq wr b st N ∧ Below w.heap.size w wr ∧ Sofar (st0.bind (manyO (rtxO 300) k)) k l st
def QfRel (w : World) (b p0 pr n1 n2 : Nat) (V0 : Value) (n0 : Nat) (l0 : List ByteArray) (st0 : St) (N : Nat) (v11 : Value) (wr : World) : Prop :=
  ∃ (k : Nat) (l1 l2 : List F) (st sy : St) (V1 V2 : Value), k ≤ n1 + n2 ∧ v11 = .int .i64 k ∧ wr.ownsRow w.heap.size tStr 1 V0 n0 (tcells l0) ∧ wr.ownsRow w.heap.size tFi 2 V1 (min k n1) (fcells l1) ∧ wr.ownsRow w.heap.size tFi 2 V2 (k - n1) (fcells l2) ∧ (∀ g, V1.ownBlock = some g → V2.ownBlock ≠ some g) ∧
    Blk wr pr tRec #[V0, V1, V2] ∧ Blk wr p0 tRec zeroR ∧ Sq wr b st N ∧ Below w.heap.size w wr ∧ Sofar (st0.bind (manyO (rflO nameB) (min k n1))) (min k n1) l1 sy ∧ Sofar (sy.bind (manyO (rflO nameB) (k - n1))) (k - n1) l2 st
def RiP (s : Bs) (w : World) (e : Ending) (w' : World) : Prop :=
  Below w.heap.size w w' ∧ ∃ A0 n0 c0 A1 n1 c1 A2 n2 c2, e = .returned (.tuple #[.agg #[.slice A0 n0 c0, .slice A1 n1 c1, .slice A2 n2 c2], .int .i64 (recN (recO nameB s))]) ∧
    RdS w' w'.heap.size A0 n0 c0 ((recO nameB s).getD ([], [], [])).1 ∧ RdF w' w'.heap.size A1 n1 c1 ((recO nameB s).getD ([], [], [])).2.1 ∧ RdF w' w'.heap.size A2 n2 c2 ((recO nameB s).getD ([], [], [])).2.2

set_option maxRecDepth 100000 in
set_option maxHeartbeats 16000000 in
theorem recIn_any (s : ByteArray) (w : World) (hs : s.size ≤ 100000) : Calls Tryz.prog 15 #[.string s] w (RiP s.data.toList w) := by
  obtain ⟨i, hi, hz, hsz, hby⟩ := str_parts
  have HI := Lib.hid hi
  have HZ := Lib.hid hz
  have HS := Lib.hid hsz
  have HBY := Lib.hid hby
  obtain ⟨i2, hi2, hz2, hsz2, hby2⟩ := file_parts
  have HI2 := Lib.hid hi2
  have HZ2 := Lib.hid hz2
  have HS2 := Lib.hid hsz2
  have HBY2 := Lib.hid hby2
  obtain ⟨q, hq⟩ : ∃ q, q = s.data.toList := ⟨_, rfl⟩
  rw [← hq]
  have hsa : s ++ ⟨#[32]⟩ = ba (q ++ [32]) := by rw [hq, ba_append, ba_of]; rfl
  have hql : q.length ≤ 100000 := by rw [hq, show s.data.toList.length = s.size by simp]; exact hs
  have HSA := Lib.hid hsa
  have hn1 : ¬ (9223372036854775807 < s.size + 1) := by omega
  obtain ⟨W, hW⟩ : ∃ W, W = (w.alloc (.cells #[.slice none 0 0, .slice none 0 0, .slice none 0 0] tRec)).alloc (.cells #[.string (ba (q ++ [32])), .bool false] tRq) := ⟨_, rfl⟩
  have hbW : Below w.heap.size w W := by rw [hW]; exact ((Below.refl _ w).alloc (Nat.le_refl _) _).alloc (by simp) _
  have hp0 : Blk W w.heap.size tRec zeroR := by rw [hW]; exact (Blk.new w tRec _).alloc _
  have hrq : Rq W (w.heap.size + 1) (q ++ [32]) false := by
    rw [hW]
    have := Blk.new (w.alloc (.cells #[.slice none 0 0, .slice none 0 0, .slice none 0 0] tRec)) tRq #[.string (ba (q ++ [32])), .bool false]
    rwa [show (w.alloc (.cells #[.slice none 0 0, .slice none 0 0, .slice none 0 0] tRec)).heap.size = w.heap.size + 1 by simp] at this
  have hsq : Sq W (w.heap.size + 1) (some (q ++ [32])) 200000 := ⟨_, _, hrq, by rw [List.length_append]; simp; omega, .inl ⟨rfl, rfl⟩⟩
  have hWs : W.heap.size = w.heap.size + 2 := by rw [hW]; simp
  have HW := Lib.hid hW
  have HBW := Lib.hid hbW
  have HP0 := Lib.hid hp0
  have HX := Lib.hid (snumber_any (w.heap.size + 1) 3 200000 32 (some (q ++ [32])) W hsq (by omega) (by omega))
  rw [show ((3 : Nat) : Int) = 3 from rfl] at HX
  unfold ptr at HX
  have HWS := Lib.hid hWs
  clear hi hz hsz hby hi2 hz2 hsz2 hby2 hsa hW hbW hp0 hrq hsq hWs hq
  go_enter Tryz.func15, Tryz.ntmps15
  go_wp2_with fail
  rw [HSA.out, ← HW.out]
  clear HW
  refine HX.out.mono ?_
  rintro e w1 ⟨hu1, hq1, a, rfl, ha, hpa⟩
  obtain ⟨o1, ho1⟩ : ∃ o1, o1 = (some (q ++ [32]) : St).bind (rnumO 32 3) := ⟨_, rfl⟩
  rw [← ho1] at hq1 hpa
  have O1 := Lib.hid ho1
  have PA := Lib.hid hpa
  have HU1 := Lib.hid hu1
  have HX2 := Lib.hid (snumber_any (w.heap.size + 1) 3 200000 32 (sOf o1) w1 hq1 (by omega) (by omega))
  rw [show ((3 : Nat) : Int) = 3 from rfl] at HX2
  unfold ptr at HX2
  clear HX ho1 hq1 hpa hu1
  go_wp2_with fail
  refine HX2.out.mono ?_
  rintro e w2 ⟨hu2, hq2, nb, rfl, hb, hpb⟩
  obtain ⟨o2, ho2⟩ : ∃ o2, o2 = (sOf o1).bind (rnumO 32 3) := ⟨_, rfl⟩
  rw [← ho2] at hq2 hpb
  have O2 := Lib.hid ho2
  have PB := Lib.hid hpb
  have HU2 := Lib.hid (HU1.out.two hu2)
  have HX3 := Lib.hid (snumber_any (w.heap.size + 1) 2 200000 32 (sOf o2) w2 hq2 (by omega) (by omega))
  rw [show ((2 : Nat) : Int) = 2 from rfl] at HX3
  unfold ptr at HX3
  clear HX2 ho2 hq2 hpb hu2 HU1
  go_wp2_with fail
  refine HX3.out.mono ?_
  rintro e w3 ⟨hu3, hq3, nc, rfl, hc, hpc⟩
  obtain ⟨o3, ho3⟩ : ∃ o3, o3 = (sOf o2).bind (rnumO 32 2) := ⟨_, rfl⟩
  rw [← ho3] at hq3 hpc
  have O3 := Lib.hid ho3
  have PC := Lib.hid hpc
  have hu3' := HU2.out.two hu3
  have hbl3 := below_one HBW.out (by rw [HWS.out]; omega) (by omega) hu3'
  have hpr := Blk.new w3 tRec #[.slice none 0 0, .slice none 0 0, .slice none 0 0]
  have hp03 : Blk w3 w.heap.size tRec zeroR := HP0.out.upd hu3' (by show ¬ (w.heap.size = w.heap.size + 1); omega)
  have hp04 := hp03.alloc (.cells #[.slice none 0 0, .slice none 0 0, .slice none 0 0] tRec)
  have hq4 := hq3.alloc (.cells #[.slice none 0 0, .slice none 0 0, .slice none 0 0] tRec)
  have hbl4 := hbl3.alloc hbl3.size (.cells #[.slice none 0 0, .slice none 0 0, .slice none 0 0] tRec)
  have hblt := hq3.lt
  obtain ⟨pr, hprr⟩ : ∃ pr, pr = w3.heap.size := ⟨_, rfl⟩
  rw [← hprr] at hpr hblt
  have HPR := Lib.hid hpr
  have HP4 := Lib.hid hp04
  have HQ4 := Lib.hid hq4
  have HB4 := Lib.hid hbl4
  have HPRR := Lib.hid hprr
  clear ho3 hq3 hpc hu3 hu3' hbl3 hpr hp03 hp04 hq4 hbl4 HX3 HU2 HP0 HBW HWS hprr
  go_wp2
  rw [← HPRR.out]
  generalize w3.alloc (.cells #[.slice none 0 0, .slice none 0 0, .slice none 0 0] tRec) = w4 at *
  clear HPRR
  go_loopw [9] (fun v9 wr => QcRel w (w.heap.size + 1) w.heap.size pr a (sOf o3) 200000 v9 wr) (fun v _ => a - (intOf v).toNat)
  case atStart => exact ⟨0, [], sOf o3, .slice none 0 0, Nat.zero_le _, rfl, World.ownsRow_nil _ _ _ _, HPR.out, HP4.out, HQ4.out, HB4.out, Sofar.start _ _⟩
  case round =>
    clear HPR HP4 HQ4 HB4
    obtain ⟨k, l, st, V, hk, rfl, hown, hpr, hp0, hin, hbl, hso⟩ := hrel
    have HO := Lib.hid hown
    have HPR := Lib.hid hpr
    have HP0 := Lib.hid hp0
    have HBL := Lib.hid hbl
    have HSO := Lib.hid hso
    have HIN := Lib.hid hin
    have hwsz : w.heap.size ≤ wr.heap.size := hbl.size
    have hprlt : pr < wr.heap.size := hpr.lt
    obtain ⟨AV, cV, rfl⟩ := own_shape hown
    by_cases hlt : k < a
    · have hkz : (k : Int) < (a : Int) := by omega
      have HTX := Lib.hid (stext_any (w.heap.size + 1) 300 200000 st wr hin (by omega) (by omega))
      rw [show ((300 : Nat) : Int) = 300 from rfl] at HTX
      unfold ptr at HTX
      clear hown hpr hp0 hbl hso hin
      go_wp2_with fail
      refine HTX.out.mono ?_
      rintro e w5 ⟨hu5, hq5, t, rfl, htl, hpt⟩
      have hNX := HSO.out.nextG rfl hpt
      have HNX := Lib.hid hNX
      have hpr5 := HPR.out.upd hu5 (by show ¬ (pr = w.heap.size + 1); omega)
      have hp05 := HP0.out.upd hu5 (by show ¬ (w.heap.size = w.heap.size + 1); omega)
      have hbl5 := below_one HBL.out hwsz (by omega) hu5
      have ho5 := own_upd HO.out hu5 (HIN.out.ne HO.out (by decide))
      have hO := ho5.alloc (.cells #[.string t] tStr)
      have HO5 := Lib.hid hO
      have PR5 := Lib.hid (hpr5.alloc (.cells #[.string t] tStr))
      have P05 := Lib.hid (hp05.alloc (.cells #[.string t] tStr))
      have Q5 := Lib.hid (hq5.alloc (.cells #[.string t] tStr))
      have BL5 := Lib.hid (hbl5.alloc hbl5.size (.cells #[.string t] tStr))
      have hsz5 : w.heap.size ≤ (w5.alloc (.cells #[.string t] tStr)).heap.size := BL5.out.size
      have HRX := Lib.hid (rdx_one w5 t)
      have c0 := hpr5.cell 0
      clear hu5 hq5 hpt hNX hpr5 hp05 hbl5 ho5 hO HTX HO HPR HP0 HBL HSO HIN
      go_wp2_with (at_builtin; refine wpList_append_rd _ rfl (.tmp 34) (.tmp 36) _ rfl w.heap.size tStr i _ 1 16 Tryz.underlying22 HI.out HZ.out HS.out HBY.out rfl (by decide) _ k _ rfl HO5.out (some ⟨w5.heap.size, 0, none⟩) 1 1 [.string t] rfl HRX.out ?_ ?_ ?_ ?_)
      · unfold maxLen; omega
      · omega
      · exact hsz5
      intro v6 w6 own6 g6 _
      obtain ⟨A6, c6, rfl⟩ := own_shape own6
      have hpr6 := PR5.out.grown g6 (row_block_ne HO5.out PR5.out (by decide))
      have hp06 := P05.out.grown g6 (row_block_ne HO5.out P05.out (by decide))
      have hq6 := Q5.out.grown HO5.out g6 (by decide)
      have hbl6 := BL5.out.grown g6 hsz5 (fun g hg => (HO5.out.lt g hg).1)
      have d0 : w6.cell? ⟨pr, 0, none⟩ = some (.slice AV k cV) := hpr6.cell 0
      have e0 := hpr6.free 0
      have HO6 := Lib.hid (own_set (i := 0) (u := .slice A6 (k + 1) c6) own6 (row_block_ne own6 hpr6 (by decide)))
      have PR6 := Lib.hid (hpr6.set 0 (.slice A6 (k + 1) c6))
      have P06 := Lib.hid (hp06.other (show w.heap.size ≠ pr by omega) (i := 0) (.slice A6 (k + 1) c6))
      have Q6 := Lib.hid (hq6.other (show w.heap.size + 1 ≠ pr by omega) (i := 0) (.slice A6 (k + 1) c6))
      have BL6 := Lib.hid (hbl6.setCell (p := ⟨pr, 0, none⟩) (show w.heap.size ≤ pr by omega) (.slice A6 (k + 1) c6))
      clear own6 g6 hpr6 hp06 hq6 hbl6 HO5 PR5 P05 Q5 BL5 HRX c0 hsz5
      go_wp2
      go_roundw
      case rel =>
        refine ⟨k + 1, l ++ [t], _, .slice A6 (k + 1) c6, by omega, by go_num, ?_, PR6.out, P06.out, Q6.out, BL6.out, HNX.out⟩
        rw [tcells_snoc]
        exact HO6.out
      case measure => simp [intOf]; omega
    · obtain rfl : k = a := by omega
      clear hown hpr hp0 hbl hso hin
      go_wp2
      go_loopw [11] (fun v11 wr => QfRel w (w.heap.size + 1) w.heap.size pr nb nc (.slice AV k cV) k l st 200000 v11 wr) (fun v _ => nb + nc - (intOf v).toNat)
      case atStart => exact ⟨0, [], [], st, st, .slice none 0 0, .slice none 0 0, Nat.zero_le _, rfl, HO.out, by simpa [fcells] using World.ownsRow_nil _ _ _ _, by simpa [fcells] using World.ownsRow_nil _ _ _ _, fun g h => by simp [Value.ownBlock] at h, HPR.out, HP0.out, HIN.out, HBL.out, by simpa using Sofar.start (rflO nameB) st, by simpa using Sofar.start (rflO nameB) st⟩
      case round =>
        clear HPR HP0 HBL HIN HO
        have HSX := HSO
        clear HSO
        obtain ⟨j, l1, l2, st2, sy, V1, V2, hj, rfl, ho0, ho1, ho2, hsep, hpr, hp0, hin, hbl, hs1, hs2⟩ := hrel
        obtain ⟨m1, hm1⟩ : ∃ m1, m1 = min j nb := ⟨_, rfl⟩
        obtain ⟨m2, hm2⟩ : ∃ m2, m2 = j - nb := ⟨_, rfl⟩
        rw [← hm1] at ho1 hs1
        rw [← hm2] at ho2 hs2
        have hm1l : m1 ≤ 3 := by omega
        have hm2l : m2 ≤ 2 := by omega
        have HM1 := Lib.hid hm1
        have HM2 := Lib.hid hm2
        obtain ⟨A1, c1, rfl⟩ := own_shape ho1
        obtain ⟨A2, c2, rfl⟩ := own_shape ho2
        have hwsz : w.heap.size ≤ wr.heap.size := hbl.size
        have hprlt : pr < wr.heap.size := hpr.lt
        have HO0 := Lib.hid ho0
        have HO1 := Lib.hid ho1
        have HO2 := Lib.hid ho2
        have HSEP := Lib.hid hsep
        have HPR := Lib.hid hpr
        have HP0 := Lib.hid hp0
        have HIN := Lib.hid hin
        have HBL := Lib.hid hbl
        have HSF1 := Lib.hid hs1
        have HSF2 := Lib.hid hs2
        by_cases hlt2 : j < nb + nc
        · have hkz : (j : Int) < (nb : Int) + (nc : Int) := by omega
          have HWD := Lib.hid (sword_any (w.heap.size + 1) 200000 32 st2 wr hin (by omega))
          unfold ptr at HWD
          clear ho0 ho1 ho2 hsep hpr hp0 hin hbl hs1 hs2 hm1 hm2
          go_wp2_with fail
          refine HWD.out.mono ?_
          rintro e w5 ⟨hu5, hq5, x, rfl, hxl, hpx⟩
          have HU5 := Lib.hid hu5
          have HPX := Lib.hid hpx
          have HTX := Lib.hid (stext_any (w.heap.size + 1) 20 200000 (sOf (st2.bind (wordO 32))) w5 hq5 (by omega) (by omega))
          rw [show ((20 : Nat) : Int) = 20 from rfl] at HTX
          unfold ptr at HTX
          clear hu5 hpx hq5 HWD
          go_wp2_with fail
          refine HTX.out.mono ?_
          rintro e w6 ⟨hu6, hq6, t, rfl, htl, hpt⟩
          have hstep := rfl_step HPX.out hpt
          have HNM := Lib.hid (nameMay_any (ba x) w6 (by rw [ba_size]; omega))
          obtain ⟨S2, hS2⟩ : ∃ S2, S2 = sOf (st2.bind (rflO nameB)) := ⟨_, rfl⟩
          rw [← hS2] at hstep
          have hu := HU5.out.two hu6
          have hne0 : w.heap.size ≠ w.heap.size + 1 := by omega
          have hnep : pr ≠ w.heap.size + 1 := by omega
          have pr6 := HPR.out.upd hu hnep
          have p06 := HP0.out.upd hu hne0
          have bl6 := below_one HBL.out hwsz (by omega) hu
          have o06 := own_upd HO0.out hu (HIN.out.ne HO0.out (by decide))
          have o16 := own_upd HO1.out hu (HIN.out.ne HO1.out (by decide))
          have o26 := own_upd HO2.out hu (HIN.out.ne HO2.out (by decide))
          have hx1 : ∃ bx, w6.cell? ⟨w.heap.size + 1, 1, none⟩ = some (.bool bx) ∧ w6.frozen? ⟨w.heap.size + 1, 1, none⟩ = false := by
            obtain ⟨sx, bx, hrx, _⟩ := hq6
            exact ⟨bx, Blk.cell hrx 1, Blk.free hrx 1⟩
          obtain ⟨bx, x1, g1⟩ := hx1
          have hw6 : w.heap.size ≤ w6.heap.size := bl6.size
          obtain ⟨w8, hw8, d1, d2, PR8, P08, Q8, BL8, O08, O18, O28, H1⟩ : ∃ w8, ((nameB (ba x) = true ∧ w6 = w8) ∨ (nameB (ba x) = false ∧ w8 = w6.setCell ⟨w.heap.size + 1, 1, none⟩ (.bool true))) ∧
              w8.cell? ⟨pr, 1, none⟩ = some (.slice A1 m1 c1) ∧ w8.cell? ⟨pr, 2, none⟩ = some (.slice A2 m2 c2) ∧
              Hid (Blk (w8.alloc (.cells #[.string (ba x), .string t] tFi)) pr tRec #[.slice AV k cV, .slice A1 m1 c1, .slice A2 m2 c2]) ∧ Hid (Blk (w8.alloc (.cells #[.string (ba x), .string t] tFi)) w.heap.size tRec zeroR) ∧ Hid (Sq (w8.alloc (.cells #[.string (ba x), .string t] tFi)) (w.heap.size + 1) S2 200000) ∧ Hid (Below w.heap.size w (w8.alloc (.cells #[.string (ba x), .string t] tFi))) ∧
              Hid ((w8.alloc (.cells #[.string (ba x), .string t] tFi)).ownsRow w.heap.size tStr 1 (.slice AV k cV) k (tcells l)) ∧ Hid ((w8.alloc (.cells #[.string (ba x), .string t] tFi)).ownsRow w.heap.size tFi 2 (.slice A1 m1 c1) m1 (fcells l1)) ∧ Hid ((w8.alloc (.cells #[.string (ba x), .string t] tFi)).ownsRow w.heap.size tFi 2 (.slice A2 m2 c2) m2 (fcells l2)) ∧
              Hid (RdX (w8.alloc (.cells #[.string (ba x), .string t] tFi)) 2 (some ⟨w6.heap.size, 0, none⟩) 1 [.string (ba x), .string t]) := by
            cases hn : nameB (ba x) with
            | true =>
              rw [hn, if_pos rfl] at hstep
              rw [hstep.1] at hq6
              exact ⟨w6, .inl ⟨rfl, rfl⟩, pr6.cell 1, pr6.cell 2, Lib.hid (pr6.alloc _), Lib.hid (p06.alloc _), Lib.hid (hq6.alloc _), Lib.hid (bl6.alloc hw6 _), Lib.hid (o06.alloc _), Lib.hid (o16.alloc _), Lib.hid (o26.alloc _), Lib.hid (rdx_file w6 (ba x) t)⟩
            | false =>
              rw [hn, if_neg (by simp)] at hstep
              have hq8 := hq6.bad
              rw [hstep.1] at hq8
              have pr8 := pr6.other hnep (i := 1) (.bool true)
              have bl8 := bl6.setCell (p := ⟨w.heap.size + 1, 1, none⟩) (show w.heap.size ≤ w.heap.size + 1 by omega) (.bool true)
              have hz8 : (w6.setCell ⟨w.heap.size + 1, 1, none⟩ (.bool true)).heap.size = w6.heap.size := by simp [World.setCell]
              have hx8 := rdx_file (w6.setCell ⟨w.heap.size + 1, 1, none⟩ (.bool true)) (ba x) t
              rw [hz8] at hx8
              refine ⟨_, .inr ⟨rfl, rfl⟩, pr8.cell 1, pr8.cell 2, Lib.hid (pr8.alloc _), Lib.hid ((p06.other hne0 (i := 1) (.bool true)).alloc _), Lib.hid (hq8.alloc _), Lib.hid (bl8.alloc bl8.size _), Lib.hid ((own_set o06 (hq6.ne o06 (by decide))).alloc _), Lib.hid ((own_set o16 (hq6.ne o16 (by decide))).alloc _), Lib.hid ((own_set o26 (hq6.ne o26 (by decide))).alloc _), Lib.hid hx8⟩
          have HNX := Lib.hid hstep.2
          have HSZ8 := Lib.hid BL8.out.size
          have HS2E := Lib.hid hS2
          clear hstep hS2 hu hpt hu6 hq6 pr6 p06 bl6 o06 o16 o26 HU5 HPX HTX HO0 HO1 HO2 HPR HP0 HIN HBL
          have HW8 := Lib.hid hw8
          clear hw8
          go_wp2_with fail
          refine HNM.out.mono ?_
          rintro e w7 ⟨rfl, rfl⟩
          clear HNM
          rcases HW8.out with ⟨hn, hw8⟩ | ⟨hn, hw8⟩
          all_goals (
            clear HW8
            subst hw8
            rw [hn]
            clear hn
            by_cases hlt3 : j < nb
            · have hkz3 : (j : Int) < (nb : Int) := by omega
              have hmj : m1 = j := by rw [HM1.out]; omega
              have hmz : m2 = 0 := by rw [HM2.out]; omega
              have HMJ := Lib.hid hmj
              have HMZ := Lib.hid hmz
              clear hmj hmz
              go_wp2_with (at_builtin; refine wpList_append_rd _ rfl (.tmp 61) (.tmp 65) _ rfl w.heap.size tFi i2 _ 2 32 Tryz.underlying25 HI2.out HZ2.out HS2.out HBY2.out rfl (by decide) _ m1 _ rfl O18.out (some ⟨w6.heap.size, 0, none⟩) 1 1 [.string (ba x), .string t] rfl H1.out ?_ ?_ ?_ ?_)
              · unfold maxLen; omega
              · omega
              · exact HSZ8.out
              intro v9 w9 own9 g9 hloc
              obtain ⟨A9, c9, rfl⟩ := own_shape own9
              have hpr9 := PR8.out.grown g9 (row_block_ne O18.out PR8.out (by decide))
              have hp09 := P08.out.grown g9 (row_block_ne O18.out P08.out (by decide))
              have hq9 := Q8.out.grown O18.out g9 (by decide)
              have hbl9 := BL8.out.grown g9 HSZ8.out (fun g hg => (O18.out.lt g hg).1)
              have h09 := own_grown O08.out g9 (rows_apart O08.out O18.out (by decide))
              have h29 := own_grown O28.out g9 (fun g hg hg' => HSEP.out g hg' hg)
              have hsep9 : ∀ g, (Value.slice A9 (m1 + 1) c9).ownBlock = some g → (Value.slice A2 m2 c2).ownBlock ≠ some g := by
                intro g hg hg2
                rcases hloc with h | h
                · rw [h] at hg
                  exact HSEP.out g hg hg2
                · rw [h] at hg
                  injection hg with hg
                  have := (O28.out.lt g hg2).2
                  rw [← hg] at this
                  simp [World.setCell] at this
              have q1 : w9.cell? ⟨pr, 1, none⟩ = some (.slice A1 m1 c1) := hpr9.cell 1
              have e1 := hpr9.free 1
              have N0 := Lib.hid (own_set (i := 1) (u := .slice A9 (m1 + 1) c9) h09 (row_block_ne h09 hpr9 (by decide)))
              have N1 := Lib.hid (own_set (i := 1) (u := .slice A9 (m1 + 1) c9) own9 (row_block_ne own9 hpr9 (by decide)))
              have N2 := Lib.hid (own_set (i := 1) (u := .slice A9 (m1 + 1) c9) h29 (row_block_ne h29 hpr9 (by decide)))
              have NR := Lib.hid (hpr9.set 1 (.slice A9 (m1 + 1) c9))
              have NP := Lib.hid (hp09.other (show w.heap.size ≠ pr by omega) (i := 1) (.slice A9 (m1 + 1) c9))
              have NQ := Lib.hid (hq9.other (show w.heap.size + 1 ≠ pr by omega) (i := 1) (.slice A9 (m1 + 1) c9))
              have NB := Lib.hid (hbl9.setCell (p := ⟨pr, 1, none⟩) (show w.heap.size ≤ pr by omega) (.slice A9 (m1 + 1) c9))
              have NS := Lib.hid hsep9
              clear own9 g9 hloc hpr9 hp09 hq9 hbl9 h09 h29 hsep9 PR8 P08 Q8 BL8 O08 O18 O28 H1 d1 d2 x1 g1 HSZ8 HSEP
              go_wp2
              go_roundw
              case rel =>
                have a1 := HSF1.out
                have a2 := HSF2.out
                rw [HMJ.out] at a1
                rw [HMZ.out] at a2
                obtain ⟨rfl, rfl⟩ := a2.zero
                refine ⟨j + 1, l1 ++ [(ba x, t)], [], S2, S2, .slice A9 (m1 + 1) c9, .slice A2 m2 c2, by omega, by go_num, N0.out, ?_, ?_, NS.out, NR.out, NP.out, NQ.out, NB.out, ?_, ?_⟩
                · rw [show min (j + 1) nb = m1 + 1 by rw [HMJ.out]; omega, fcells_append]
                  exact N1.out
                · rw [show j + 1 - nb = m2 by rw [HMZ.out]; omega]
                  exact N2.out
                · rw [show min (j + 1) nb = j + 1 by omega]
                  exact a1.nextG HS2E.out HNX.out
                · rw [show j + 1 - nb = 0 by omega]
                  exact Sofar.start _ _
              case measure => simp [intOf]; omega
            · have hkz3 : ¬ ((j : Int) < (nb : Int)) := by omega
              have hmj : m1 = nb := by rw [HM1.out]; omega
              have hmz : m2 = j - nb := HM2.out
              have HMJ := Lib.hid hmj
              have HMZ := Lib.hid hmz
              clear hmj hmz
              go_wp2_with (at_builtin; refine wpList_append_rd _ rfl (.tmp 69) (.tmp 73) _ rfl w.heap.size tFi i2 _ 2 32 Tryz.underlying25 HI2.out HZ2.out HS2.out HBY2.out rfl (by decide) _ m2 _ rfl O28.out (some ⟨w6.heap.size, 0, none⟩) 1 1 [.string (ba x), .string t] rfl H1.out ?_ ?_ ?_ ?_)
              · unfold maxLen; omega
              · omega
              · exact HSZ8.out
              intro v9 w9 own9 g9 hloc
              obtain ⟨A9, c9, rfl⟩ := own_shape own9
              have hpr9 := PR8.out.grown g9 (row_block_ne O28.out PR8.out (by decide))
              have hp09 := P08.out.grown g9 (row_block_ne O28.out P08.out (by decide))
              have hq9 := Q8.out.grown O28.out g9 (by decide)
              have hbl9 := BL8.out.grown g9 HSZ8.out (fun g hg => (O28.out.lt g hg).1)
              have h09 := own_grown O08.out g9 (rows_apart O08.out O28.out (by decide))
              have h19 := own_grown O18.out g9 (fun g hg hg' => HSEP.out g hg hg')
              have hsep9 : ∀ g, (Value.slice A1 m1 c1).ownBlock = some g → (Value.slice A9 (m2 + 1) c9).ownBlock ≠ some g := by
                intro g hg hg2
                rcases hloc with h | h
                · rw [h] at hg2
                  exact HSEP.out g hg hg2
                · rw [h] at hg2
                  injection hg2 with hg2
                  have := (O18.out.lt g hg).2
                  rw [← hg2] at this
                  simp [World.setCell] at this
              have q1 : w9.cell? ⟨pr, 2, none⟩ = some (.slice A2 m2 c2) := hpr9.cell 2
              have e1 := hpr9.free 2
              have N0 := Lib.hid (own_set (i := 2) (u := .slice A9 (m2 + 1) c9) h09 (row_block_ne h09 hpr9 (by decide)))
              have N2 := Lib.hid (own_set (i := 2) (u := .slice A9 (m2 + 1) c9) own9 (row_block_ne own9 hpr9 (by decide)))
              have N1 := Lib.hid (own_set (i := 2) (u := .slice A9 (m2 + 1) c9) h19 (row_block_ne h19 hpr9 (by decide)))
              have NR := Lib.hid (hpr9.set 2 (.slice A9 (m2 + 1) c9))
              have NP := Lib.hid (hp09.other (show w.heap.size ≠ pr by omega) (i := 2) (.slice A9 (m2 + 1) c9))
              have NQ := Lib.hid (hq9.other (show w.heap.size + 1 ≠ pr by omega) (i := 2) (.slice A9 (m2 + 1) c9))
              have NB := Lib.hid (hbl9.setCell (p := ⟨pr, 2, none⟩) (show w.heap.size ≤ pr by omega) (.slice A9 (m2 + 1) c9))
              have NS := Lib.hid hsep9
              clear own9 g9 hloc hpr9 hp09 hq9 hbl9 h09 h19 hsep9 PR8 P08 Q8 BL8 O08 O18 O28 H1 d1 d2 x1 g1 HSZ8 HSEP
              go_wp2
              go_roundw
              case rel =>
                have a1 := HSF1.out
                have a2 := HSF2.out
                rw [HMJ.out] at a1
                rw [HMZ.out] at a2
                refine ⟨j + 1, l1, l2 ++ [(ba x, t)], S2, sy, .slice A1 m1 c1, .slice A9 (m2 + 1) c9, by omega, by go_num, N0.out, ?_, ?_, NS.out, NR.out, NP.out, NQ.out, NB.out, ?_, ?_⟩
                · rw [show min (j + 1) nb = m1 by rw [HMJ.out]; omega]
                  exact N1.out
                · rw [show j + 1 - nb = m2 + 1 by rw [HMZ.out]; omega, fcells_append]
                  exact N2.out
                · rw [show min (j + 1) nb = nb by omega]
                  exact a1
                · rw [show j + 1 - nb = (j - nb) + 1 by omega]
                  exact a2.nextG HS2E.out HNX.out
              case measure => simp [intOf]; omega)
        · obtain rfl : j = nb + nc := by omega
          have hmj : m1 = nb := by rw [HM1.out]; omega
          have hmz : m2 = nc := by rw [HM2.out]; omega
          subst hmj hmz
          have hrec := rrec_fin (ok := nameB) O1.out O2.out O3.out PA.out PB.out PC.out HSX.out hs1 hs2
          have HREC := Lib.hid hrec
          have q01 : (Value.slice AV k cV).ownBlock ≠ some w.heap.size := row_block_ne ho0 hp0 (by decide)
          have q11 : (Value.slice A1 m1 c1).ownBlock ≠ some w.heap.size := row_block_ne ho1 hp0 (by decide)
          have q21 : (Value.slice A2 m2 c2).ownBlock ≠ some w.heap.size := row_block_ne ho2 hp0 (by decide)
          have Q01 := Lib.hid q01
          have Q11 := Lib.hid q11
          have Q21 := Lib.hid q21
          obtain ⟨sx, bx, hrx, hsl, hsc⟩ := hin
          have x0 : wr.cell? ⟨w.heap.size + 1, 0, none⟩ = some (.string (ba sx)) := Blk.cell hrx 0
          have x1 : wr.cell? ⟨w.heap.size + 1, 1, none⟩ = some (.bool bx) := Blk.cell hrx 1
          have y0 : wr.cell? ⟨w.heap.size, 0, none⟩ = some (.slice none 0 0) := hp0.cell 0
          have y1 : wr.cell? ⟨w.heap.size, 1, none⟩ = some (.slice none 0 0) := hp0.cell 1
          have y2 : wr.cell? ⟨w.heap.size, 2, none⟩ = some (.slice none 0 0) := hp0.cell 2
          have z0 := hp0.free 0
          have z1 := hp0.free 1
          have z2 := hp0.free 2
          have v0 : wr.cell? ⟨pr, 0, none⟩ = some (.slice AV k cV) := hpr.cell 0
          have v1 : wr.cell? ⟨pr, 1, none⟩ = some (.slice A1 m1 c1) := hpr.cell 1
          have v2 : wr.cell? ⟨pr, 2, none⟩ = some (.slice A2 m2 c2) := hpr.cell 2
          have HSC := Lib.hid hsc
          clear ho0 ho1 ho2 hsep hpr hp0 hbl hs1 hs2 hm1 hm2 hrec hrx hsc HIN q01 q11 q21
          rcases HSC.out with ⟨rfl, rfl⟩ | ⟨rfl, rfl⟩
          · cases sx with
            | nil =>
              have e2 : ba [] = ⟨#[]⟩ := rfl
              rw [e2] at x0
              have HR2 : Hid (recO nameB q = some (l, l1, l2)) := Lib.hid (HREC.out.trans (if_pos rfl))
              go_wp2
              refine bodyPost_ret (v := .tuple #[.agg #[.slice AV k cV, .slice A1 m1 c1, .slice A2 m2 c2], .int .i64 0]) ?_ rfl ?_
              · rw [results_cell_tmp rfl]
                go_simp
              · have o0 := own_set (i := 2) (u := .slice A2 m2 c2) (own_set (i := 1) (u := .slice A1 m1 c1) (own_set (i := 0) (u := .slice AV k cV) HO0.out Q01.out) Q01.out) Q01.out
                have o1 := own_set (i := 2) (u := .slice A2 m2 c2) (own_set (i := 1) (u := .slice A1 m1 c1) (own_set (i := 0) (u := .slice AV k cV) HO1.out Q11.out) Q11.out) Q11.out
                have o2 := own_set (i := 2) (u := .slice A2 m2 c2) (own_set (i := 1) (u := .slice A1 m1 c1) (own_set (i := 0) (u := .slice AV k cV) HO2.out Q21.out) Q21.out) Q21.out
                obtain ⟨B0, d0, h0, r0⟩ := RdS.of_own o0
                obtain ⟨B1, d1, h1, r1⟩ := RdF.of_own o1
                obtain ⟨B2, d2, h2, r2⟩ := RdF.of_own o2
                injection h0 with h0 _ h0'
                injection h1 with h1 _ h1'
                injection h2 with h2 _ h2'
                subst h0 h0' h1 h1' h2 h2'
                refine ⟨((HBL.out.setCell (p := ⟨w.heap.size, 0, none⟩) (Nat.le_refl _) _).setCell (p := ⟨w.heap.size, 1, none⟩) (Nat.le_refl _) _).setCell (p := ⟨w.heap.size, 2, none⟩) (Nat.le_refl _) _, _, _, _, _, _, _, _, _, _, by rw [HR2.out]; rfl, ?_, ?_, ?_⟩
                · rw [HR2.out]; exact r0
                · rw [HR2.out]; exact r1
                · rw [HR2.out]; exact r2
            | cons c r =>
              have e2 : ((ba (c :: r)).toList == []) = false := by simp [ba]
              have e3 : (ba (c :: r)).toList.isEmpty = false := by simp [ba]
              have HR2 : Hid (recO nameB q = none) := Lib.hid (HREC.out.trans (if_neg (by simp)))
              go_wp2
              refine bodyPost_ret (v := .tuple #[.agg #[.slice none 0 0, .slice none 0 0, .slice none 0 0], .int .i64 4]) ?_ rfl ?_
              · rw [results_cell_tmp rfl]
                go_simp
              · refine ⟨((HBL.out.setCell (p := ⟨w.heap.size, 0, none⟩) (Nat.le_refl _) _).setCell (p := ⟨w.heap.size, 1, none⟩) (Nat.le_refl _) _).setCell (p := ⟨w.heap.size, 2, none⟩) (Nat.le_refl _) _, _, _, _, _, _, _, _, _, _, by rw [HR2.out]; rfl, ?_, ?_, ?_⟩
                · rw [HR2.out]; exact RdS.nil _ _
                · rw [HR2.out]; exact RdF.nil _ _
                · rw [HR2.out]; exact RdF.nil _ _
          · have HR2 : Hid (recO nameB q = none) := Lib.hid (HREC.out.trans (if_neg (by simp)))
            go_wp2
            refine bodyPost_ret (v := .tuple #[.agg #[.slice none 0 0, .slice none 0 0, .slice none 0 0], .int .i64 4]) ?_ rfl ?_
            · rw [results_cell_tmp rfl]
              go_simp
            · refine ⟨((HBL.out.setCell (p := ⟨w.heap.size, 0, none⟩) (Nat.le_refl _) _).setCell (p := ⟨w.heap.size, 1, none⟩) (Nat.le_refl _) _).setCell (p := ⟨w.heap.size, 2, none⟩) (Nat.le_refl _) _, _, _, _, _, _, _, _, _, _, by rw [HR2.out]; rfl, ?_, ?_, ?_⟩
              · rw [HR2.out]; exact RdS.nil _ _
              · rw [HR2.out]; exact RdF.nil _ _
              · rw [HR2.out]; exact RdF.nil _ _
end Go.Proofs.YtpghfefiifhbiaaGreatDoor
