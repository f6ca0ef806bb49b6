/-
  WALK: hammerpondref.Applied: what it gives, for rows that rise, none of them gone, and any changes.
-/
import Derived.Test.YtgkenknplepmeaaAppm
import Derived.Test.YtgkenknplepmeaaGr
namespace Go.Proofs.Ytgkenknplepmeaa
open Go.RowKit Go.Sort

/-- Does the change go in ahead of x? -/
def ahead (c x : Ch) : Bool := Op.bytesLess c.key.toList x.key.toList || c.key.toList == x.key.toList
/-- One change goes into a list; 'laid': it has gone in (or is gone). -/
def insG (c : Ch) : Bool → List Ch → List Ch
  | laid, [] => if laid then [] else [c]
  | laid, x :: r => (if !laid && ahead c x then [c] else []) ++ ((if x.key == c.key then [] else [x]) ++ insG c (laid || ahead c x) r)
theorem ahead_lt {c x : Ch} (h : ahead c x = false) : lt x.key c.key = true := le_not_lt h
theorem ahead_ge {c x : Ch} (h : ahead c x = true) : lt x.key c.key = false := by
  unfold ahead at h
  rw [Bool.or_eq_true] at h
  rcases h with h | h
  · exact lt_asymm h
  · rw [toList_inj (beq_iff_eq.1 h)]; exact lt_irrefl _
theorem insG_true (c : Ch) : ∀ r : List Ch, insG c true r = r.filter fun x => !(x.key == c.key)
  | [] => rfl
  | x :: r => by
    rw [insG, Bool.true_or, insG_true c r, List.filter_cons]
    cases h : (x.key == c.key) <;> simp
theorem filter_keep {c : Ch} {r : List Ch} (h : ∀ x ∈ r, lt c.key x.key = true) : (r.filter fun x => !(x.key == c.key)) = r := by
  rw [List.filter_eq_self]
  intro x hx
  have := lt_ne (h x hx)
  simp only [Bool.not_eq_true', beq_eq_false_iff_ne]
  exact fun e => this e.symm
theorem insG_mem (c : Ch) (b : Bool) : ∀ (r : List Ch) (x : Ch), x ∈ insG c b r → x = c ∨ x ∈ r := by
  intro r
  induction r generalizing b with
  | nil => intro x hx; unfold insG at hx; split at hx <;> simp_all
  | cons y r ih =>
    intro x hx
    unfold insG at hx
    rw [List.mem_append, List.mem_append] at hx
    rcases hx with hx | hx | hx
    · split at hx
      · exact .inl (by simpa using hx)
      · simp at hx
    · split at hx
      · simp at hx
      · exact .inr (by have : x = y := by simpa using hx
                       simp [this])
    · rcases ih _ x hx with h | h
      · exact .inl h
      · exact .inr (List.mem_cons_of_mem _ h)
theorem insG_rises (c : Ch) : ∀ r : List Ch, (r.Pairwise fun a b => lt a.key b.key = true) → (insG c false r).Pairwise fun a b => lt a.key b.key = true
  | [], _ => by simp [insG]
  | x :: r, h => by
    have h' := List.pairwise_cons.1 h
    rw [insG]
    cases ha : ahead c x with
    | false =>
      have hlt := ahead_lt ha
      have hne : (x.key == c.key) = false := beq_eq_false_iff_ne.2 (lt_ne hlt)
      rw [hne]
      simp only [Bool.not_false, Bool.and_false, Bool.false_eq_true, if_false, List.nil_append, Bool.or_false, List.singleton_append]
      refine List.pairwise_cons.2 ⟨fun y hy => ?_, insG_rises c r h'.2⟩
      rcases insG_mem c false r y hy with rfl | hy
      · exact hlt
      · exact h'.1 y hy
    | true =>
      have hge := ahead_ge ha
      have hall : ∀ y ∈ r, lt c.key y.key = true := fun y hy => by
        have h1 := h'.1 y hy
        cases q : lt c.key x.key with
        | true => exact lt_trans q h1
        | false => rw [lt_tri q hge]; exact h1
      simp only [Bool.not_false, Bool.and_true, if_true, Bool.or_true]
      rw [insG_true, filter_keep hall]
      cases hk : (x.key == c.key) with
      | true =>
        simp only [if_true, List.nil_append, List.singleton_append]
        exact List.pairwise_cons.2 ⟨hall, h'.2⟩
      | false =>
        simp only [Bool.false_eq_true, if_false, List.singleton_append]
        have hx : lt c.key x.key = true := by
          cases q : lt c.key x.key with
          | true => rfl
          | false => exact absurd (lt_tri hge q) (beq_eq_false_iff_ne.1 hk)
        refine List.pairwise_cons.2 ⟨fun y hy => ?_, List.pairwise_cons.2 ⟨h'.1, h'.2⟩⟩
        rcases List.mem_cons.1 hy with rfl | hy
        · exact hx
        · exact hall y hy
theorem insG_else (c : Ch) (k : ByteArray) (hk : k ≠ c.key) : ∀ (b : Bool) (r : List Ch), (insG c b r).filter (keyIs k) = r.filter (keyIs k)
  | b, [] => by
    have : keyIs k c = false := by unfold keyIs; exact beq_eq_false_iff_ne.2 (fun e => hk e.symm)
    unfold insG
    split <;> simp [this]
  | b, x :: r => by
    have hc : keyIs k c = false := by unfold keyIs; exact beq_eq_false_iff_ne.2 (fun e => hk e.symm)
    rw [insG, List.filter_append, List.filter_append, insG_else c k hk, List.filter_cons]
    have h1 : (if (!b && ahead c x) = true then [c] else []).filter (keyIs k) = [] := by split <;> simp [hc]
    rw [h1, List.nil_append]
    cases hx : (x.key == c.key) with
    | true =>
      have : keyIs k x = false := by unfold keyIs; rw [beq_iff_eq.1 hx]; exact beq_eq_false_iff_ne.2 (fun e => hk e.symm)
      simp [this]
    | false =>
      cases q : keyIs k x <;> simp [q]
theorem insG_same (c : Ch) : ∀ (b : Bool) (r : List Ch), (insG c b r).filter (keyIs c.key) = if b then [] else [c]
  | b, [] => by unfold insG; cases b <;> simp [keyIs]
  | b, x :: r => by
    rw [insG, List.filter_append, List.filter_append, insG_same c]
    have h2 : (if (x.key == c.key) = true then ([] : List Ch) else [x]).filter (keyIs c.key) = [] := by
      cases hx : (x.key == c.key) with
      | true => simp
      | false => simp [keyIs, hx]
    rw [h2, List.nil_append]
    cases b <;> cases ahead c x <;> simp [keyIs]
theorem ApplyOf.ins {l out : List Ch} (h : ApplyOf l out) (c : Ch) : ApplyOf (l ++ [c]) (insG c c.gone out) := by
  refine ⟨?_, fun k => ?_⟩
  · cases hg : c.gone with
    | true => rw [insG_true]; exact h.rises.filter _
    | false => exact insG_rises c out h.rises
  · rw [List.filter_append, ends_append]
    by_cases hk : k = c.key
    · subst hk
      have e : [c].filter (keyIs c.key) = [c] := by simp [keyIs]
      rw [insG_same, e, if_neg (show ¬ ([c] : List Ch) = [] by simp)]
      cases hg : c.gone <;> simp [Go.Proofs.Ytgkenknplepmeaa.ends, hg]
    · have e : [c].filter (keyIs k) = [] := by
        have : keyIs k c = false := by unfold keyIs; exact beq_eq_false_iff_ne.2 (fun e => hk e.symm)
        simp [this]
      rw [insG_else c k hk, e, if_pos rfl, h.same]
theorem insG_drop {c x : Ch} {b : Bool} {o : List Ch} {k : Nat} (h : o[k]? = some x) : insG c b (o.drop k) = (if !b && ahead c x then [c] else []) ++ ((if x.key == c.key then [] else [x]) ++ insG c (b || ahead c x) (o.drop (k + 1))) := by
  have hk : k < o.length := (List.getElem?_eq_some_iff.1 h).1
  have e : o.drop k = x :: o.drop (k + 1) := by
    rw [List.drop_eq_getElem_cons hk]
    rw [List.getElem?_eq_getElem hk] at h
    injection h with h
    rw [h]
  rw [e, insG]
theorem insG_len (c : Ch) : ∀ (b : Bool) (r : List Ch), (insG c b r).length ≤ r.length + 1
  | b, [] => by unfold insG; split <;> simp
  | true, x :: r => by rw [insG_true]; have := List.length_filter_le (fun x => !(x.key == c.key)) (x :: r); omega
  | false, x :: r => by
    rw [insG]
    cases ha : ahead c x with
    | true =>
      rw [Bool.or_true, insG_true]
      have := List.length_filter_le (fun x : Ch => !(x.key == c.key)) r
      cases (x.key == c.key) <;> simp <;> omega
    | false =>
      have := insG_len c false r
      cases (x.key == c.key) <;> simp <;> omega

def AdPost (w : World) (l : List Ch) (e : Ending) (w' : World) : Prop := ∃ v out, e = .returned v ∧ w'.ownsRow w.heap.size tCh 3 v out.length (ccells out) ∧ ApplyOf l out ∧ Below w.heap.size w w'
def AdOut (w : World) (rows l : List Ch) (n : Nat) (vo vi : Value) (wr : World) : Prop := ∃ (k : Nat) (out : List Ch), k ≤ n ∧ vi = .int .i64 k ∧ wr.ownsRow w.heap.size tCh 3 vo out.length (ccells out) ∧ ApplyOf (rows ++ l.take k) out ∧ out.length ≤ rows.length + k ∧ Below w.heap.size w wr
def AdIn (w2 : World) (c : Ch) (out : List Ch) (vn vl vk : Value) (wr : World) : Prop := ∃ (k : Nat) (nx : List Ch) (laid : Bool), k ≤ out.length ∧ vk = .int .i64 k ∧ vl = .bool laid ∧ wr.ownsRow w2.heap.size tCh 3 vn nx.length (ccells nx) ∧ nx ++ insG c laid (out.drop k) = insG c c.gone out ∧ Below w2.heap.size w2 wr

theorem own_up {wc : World} {B n : Nat} {v : Value} {xs : List Value} (h : wc.ownsRow B tCh 3 v n xs) (o : Obj) : (wc.alloc o).ownsRow B tCh 3 v n xs := ownsRow_block h (fun g hg => Below.heap_alloc wc _ _ (h.lt g hg).2)
theorem below_drewN {B : Nat} {w wr : World} (h : Below B w wr) (n : Nat) : Below B w (wr.drewN n) := ⟨h.1, h.2, h.3, h.4, h.5⟩
set_option maxHeartbeats 4000000 in
set_option maxRecDepth 100000 in
theorem applied_any (A1 A2 : Option Addr) (n1 c1 n2 c2 : Nat) (rows l : List Ch) (w : World) (h1 : RdC w w.heap.size A1 n1 c1 rows) (h2 : RdC w w.heap.size A2 n2 c2 l) (hn : n1 + n2 ≤ 100000) (hgood : ApplyOf rows rows) :
    Calls Try.prog 39 #[.slice A1 n1 c1, .slice A2 n2 c2] w (AdPost w (rows ++ l)) := by
  obtain ⟨ti, hti, htz, hts, htb⟩ := change_parts
  have HI := Lib.hid hti
  have HZ := Lib.hid htz
  have HS := Lib.hid hts
  have HB := Lib.hid htb
  have HR1 := Lib.hid h1
  have HR2 := Lib.hid h2
  have HX1 := Lib.hid h1.rdx
  have HL1 := Lib.hid h1.1
  have HL2 := Lib.hid h2.1
  have HGD := Lib.hid hgood
  have hm2 := h2.2.2.1
  have hnc2 := h2.2.1
  unfold maxLen at hm2
  clear hti htz hts htb h1 h2 hgood
  go_enter Try.func39, Try.ntmps39
  go_wp2_with (at_builtin; refine wpList_append_rd _ rfl (.const (.slice none 0 0)) (.tmp 10) _ rfl w.heap.size tCh ti _ 3 40 Try.underlying36 HI.out HZ.out HS.out HB.out rfl (by omega) (.slice none 0 0) 0 [] rfl (World.ownsRow_nil _ _ _ _) A1 n1 c1 (ccells rows) rfl HX1.out ?_ ?_ ?_ ?_)
  · unfold maxLen; omega
  · omega
  · exact Nat.le_refl _
  intro v1 w1 hown1 hg1 _
  have hb1 : Below w.heap.size w w1 := (Below.refl _ _).grown hg1 (Nat.le_refl _) (fun g hg => by cases hg)
  have HO1 : Hid (w1.ownsRow w.heap.size tCh 3 v1 rows.length (ccells rows)) := by
    show w1.ownsRow w.heap.size tCh 3 v1 rows.length (ccells rows)
    rw [HL1.out]
    simpa using hown1
  have HB1 := Lib.hid hb1
  clear hown1 hg1 hb1
  go_wp2
  go_loopw [5, 6] (fun vo vi wr => AdOut w rows l n2 vo vi wr) (fun _ vi _ => n2 - (intOf vi).toNat)
  case atStart => exact ⟨0, rows, Nat.zero_le _, rfl, HO1.out, by simpa using HGD.out, by omega, HB1.out⟩
  case round =>
    clear HO1 HB1
    obtain ⟨k, out, hk, rfl, ho, hap, hol, hb⟩ := hrel
    rename World => w2
    have HO := Lib.hid ho
    have HAP := Lib.hid hap
    have HBW := Lib.hid hb
    have hol2 : out.length ≤ 100000 := by rw [HL1.out] at hol; omega
    obtain ⟨Ao, co, hvo, hrdo⟩ := RdC.of_own ho
    have HRO := Lib.hid hrdo
    have hmo := hrdo.2.2.1
    have hnco := hrdo.2.1
    unfold maxLen at hmo
    clear ho hap hb hrdo
    by_cases hlt : k < n2
    · obtain ⟨c, hc⟩ : ∃ c, l[k]? = some c := ⟨_, List.getElem?_eq_getElem (by rw [HL2.out]; exact hlt)⟩
      obtain ⟨b1, off1, rfl, hbb1, k0, k1, k2⟩ := (HR2.out.below HBW.out).at_ hc
      have hb1l : b1 < w2.heap.size := Nat.lt_of_lt_of_le hbb1 HBW.out.size
      have HK := Lib.hid (And.intro k0 (And.intro k1 k2))
      have HCC := Lib.hid hc
      have kz : (k : Int) < (n2 : Int) := by omega
      subst hvo
      clear hc
      go_wp2
      clear k0 k1 k2
      go_loopw [7, 8, 9] (fun vn vl vk wr => AdIn w2 c out vn vl vk wr) (fun _ _ vk _ => out.length - (intOf vk).toNat)
      case atStart => exact ⟨0, [], c.gone, Nat.zero_le _, rfl, rfl, World.ownsRow_nil _ _ _ _, by simp, Below.refl _ _⟩
      case round =>
        obtain ⟨j, nx, laid, hj, rfl, rfl, hown, heq, hbe⟩ := hrel
        rename World => w3
        have hnx : nx.length ≤ out.length + 1 := by
          have e1 := congrArg List.length heq
          have e2 := insG_len c c.gone out
          rw [List.length_append] at e1
          omega
        have HOW := Lib.hid hown
        have HEQ := Lib.hid heq
        have HBE := Lib.hid hbe
        clear hown heq hbe
        by_cases hjl : j < out.length
        · obtain ⟨x, hx⟩ : ∃ x, out[j]? = some x := ⟨_, List.getElem?_eq_getElem hjl⟩
          obtain ⟨bo, offo, rfl, hbbo, x0, x1, x2⟩ := HRO.out.at_ hx
          have hdr := fun b => insG_drop (c := c) (b := b) hx
          have HDR := Lib.hid hdr
          have HXC := Lib.hid (And.intro x0 (And.intro x1 x2))
          have jz : (j : Int) < (out.length : Int) := by omega
          clear hx hdr x0 x1 x2
          have hcell := fun (W : World) (hW : Below w2.heap.size w2 W) => And.intro ((hW.cell (p := ⟨b1, off1 + k * 3, none⟩) hb1l).trans HK.out.1) (And.intro ((hW.cell (p := ⟨b1, off1 + k * 3 + 1, none⟩) hb1l).trans HK.out.2.1) (And.intro ((hW.cell (p := ⟨b1, off1 + k * 3 + 2, none⟩) hb1l).trans HK.out.2.2) (And.intro ((hW.cell (p := ⟨bo, offo + j * 3, none⟩) hbbo).trans HXC.out.1) (And.intro ((hW.cell (p := ⟨bo, offo + j * 3 + 1, none⟩) hbbo).trans HXC.out.2.1) ((hW.cell (p := ⟨bo, offo + j * 3 + 2, none⟩) hbbo).trans HXC.out.2.2)))))
          have HCELL := Lib.hid hcell
          clear hcell
          obtain ⟨ck, cv, cg⟩ := c
          obtain ⟨xk, xv, xg⟩ := x
          simp only at HCELL
          cases hah : (Op.bytesLess ck.toList xk.toList || ck.toList == xk.toList) with
          | true =>
            have HAH : Hid (ahead ⟨ck, cv, cg⟩ ⟨xk, xv, xg⟩ = true) := hah
            cases hek : (xk.toList == ck.toList) with
            | true =>
              have HEK : Hid (((⟨xk, xv, xg⟩ : Ch).key == (⟨ck, cv, cg⟩ : Ch).key) = true) := by
                show (xk == ck) = true
                rw [toList_inj (beq_iff_eq.1 hek)]; simp
              cases laid with
              | true =>
                have HBw3 := HBE
                have HOw3 := HOW
                obtain ⟨k0, k1, k2, x0, x1, x2⟩ := HCELL.out w3 HBw3.out
                go_wp2_with fail
                go_quiet (fail)
                obtain ⟨w4, hw4⟩ : ∃ z, z = w3.drewN nq := ⟨_, rfl⟩
                rw [← hw4]
                have HBw4 : Hid (Below w2.heap.size w2 w4) := by rw [hw4]; exact below_drewN HBw3.out nq
                have HOw4 : Hid (w4.ownsRow w2.heap.size tCh 3 u7 (nx).length (ccells (nx))) := by rw [hw4]; exact HOw3.out
                clear hw4 k0 k1 k2 x0 x1 x2
                obtain ⟨k0, k1, k2, x0, x1, x2⟩ := HCELL.out w4 HBw4.out
                go_wp2_with fail
                go_quiet (fail)
                obtain ⟨w6, hw6⟩ : ∃ z, z = w4.drewN nq := ⟨_, rfl⟩
                rw [← hw6]
                have HBw6 : Hid (Below w2.heap.size w2 w6) := by rw [hw6]; exact below_drewN HBw4.out nq
                have HOw6 : Hid (w6.ownsRow w2.heap.size tCh 3 u7 (nx).length (ccells (nx))) := by rw [hw6]; exact HOw4.out
                clear hw6 k0 k1 k2 x0 x1 x2
                obtain ⟨k0, k1, k2, x0, x1, x2⟩ := HCELL.out w6 HBw6.out
                go_wp2
                go_roundw
                case rel => exact ⟨j + 1, nx, true, by omega, by go_num, rfl, HOw6.out, by rw [← HEQ.out, HDR.out, HAH.out, HEK.out]; simp, HBw6.out⟩
                case measure => simp [intOf]; omega
              | false =>
                have HBw3 := HBE
                have HOw3 := HOW
                obtain ⟨k0, k1, k2, x0, x1, x2⟩ := HCELL.out w3 HBw3.out
                go_wp2_with fail
                go_quiet (fail)
                obtain ⟨w4, hw4⟩ : ∃ z, z = w3.drewN nq := ⟨_, rfl⟩
                rw [← hw4]
                have HBw4 : Hid (Below w2.heap.size w2 w4) := by rw [hw4]; exact below_drewN HBw3.out nq
                have HOw4 : Hid (w4.ownsRow w2.heap.size tCh 3 u7 (nx).length (ccells (nx))) := by rw [hw4]; exact HOw3.out
                clear hw4 k0 k1 k2 x0 x1 x2
                obtain ⟨k0, k1, k2, x0, x1, x2⟩ := HCELL.out w4 HBw4.out
                go_wp2_with (at_builtin; refine wpList_append_rd _ rfl (.tmp 44) (.tmp 49) _ rfl w2.heap.size tCh ti _ 3 40 Try.underlying36 HI.out HZ.out HS.out HB.out rfl (by omega) _ _ _ rfl (own_up HOw4.out _) _ 1 1 _ rfl (rdx_up w4 (⟨ck, cv, cg⟩ : Ch)) ?_ ?_ ?_ ?_)
                · (try simp only [List.length_append, List.length_singleton]); unfold maxLen; omega
                · (try simp only [List.length_append, List.length_singleton]); omega
                · exact Nat.le_trans HBw4.out.size (by simp)
                intro vw5 w5 hownw5 hgw5 _
                have HBw5 := Lib.hid ((HBw4.out.alloc HBw4.out.size _).grown hgw5 (Nat.le_trans HBw4.out.size (by simp)) (fun g' hg' => (HOw4.out.lt g' hg').1))
                have HOw5 : Hid (w5.ownsRow w2.heap.size tCh 3 vw5 (nx ++ [(⟨ck, cv, cg⟩ : Ch)]).length (ccells (nx ++ [(⟨ck, cv, cg⟩ : Ch)]))) := by
                  show w5.ownsRow w2.heap.size tCh 3 vw5 (nx ++ [(⟨ck, cv, cg⟩ : Ch)]).length (ccells (nx ++ [(⟨ck, cv, cg⟩ : Ch)]))
                  have h := hownw5
                  simp only [List.length_append, List.length_singleton, ccells_append] at h ⊢
                  exact h
                clear hownw5 hgw5
                clear k0 k1 k2 x0 x1 x2
                obtain ⟨k0, k1, k2, x0, x1, x2⟩ := HCELL.out w5 HBw5.out
                go_wp2_with fail
                go_quiet (fail)
                obtain ⟨w6, hw6⟩ : ∃ z, z = w5.drewN nq := ⟨_, rfl⟩
                rw [← hw6]
                have HBw6 : Hid (Below w2.heap.size w2 w6) := by rw [hw6]; exact below_drewN HBw5.out nq
                have HOw6 : Hid (w6.ownsRow w2.heap.size tCh 3 vw5 (nx ++ [(⟨ck, cv, cg⟩ : Ch)]).length (ccells (nx ++ [(⟨ck, cv, cg⟩ : Ch)]))) := by rw [hw6]; exact HOw5.out
                clear hw6 k0 k1 k2 x0 x1 x2
                obtain ⟨k0, k1, k2, x0, x1, x2⟩ := HCELL.out w6 HBw6.out
                go_wp2
                go_roundw
                case rel => exact ⟨j + 1, nx ++ [(⟨ck, cv, cg⟩ : Ch)], true, by omega, by go_num, rfl, HOw6.out, by rw [← HEQ.out, HDR.out, HAH.out, HEK.out]; simp, HBw6.out⟩
                case measure => simp [intOf]; omega
            | false =>
              have HEK : Hid (((⟨xk, xv, xg⟩ : Ch).key == (⟨ck, cv, cg⟩ : Ch).key) = false) := by
                show (xk == ck) = false
                rw [beq_eq_false_iff_ne]; intro e; rw [e] at hek; simp at hek
              cases laid with
              | true =>
                have HBw3 := HBE
                have HOw3 := HOW
                obtain ⟨k0, k1, k2, x0, x1, x2⟩ := HCELL.out w3 HBw3.out
                go_wp2_with fail
                go_quiet (fail)
                obtain ⟨w4, hw4⟩ : ∃ z, z = w3.drewN nq := ⟨_, rfl⟩
                rw [← hw4]
                have HBw4 : Hid (Below w2.heap.size w2 w4) := by rw [hw4]; exact below_drewN HBw3.out nq
                have HOw4 : Hid (w4.ownsRow w2.heap.size tCh 3 u7 (nx).length (ccells (nx))) := by rw [hw4]; exact HOw3.out
                clear hw4 k0 k1 k2 x0 x1 x2
                obtain ⟨k0, k1, k2, x0, x1, x2⟩ := HCELL.out w4 HBw4.out
                go_wp2_with fail
                go_quiet (fail)
                obtain ⟨w6, hw6⟩ : ∃ z, z = w4.drewN nq := ⟨_, rfl⟩
                rw [← hw6]
                have HBw6 : Hid (Below w2.heap.size w2 w6) := by rw [hw6]; exact below_drewN HBw4.out nq
                have HOw6 : Hid (w6.ownsRow w2.heap.size tCh 3 u7 (nx).length (ccells (nx))) := by rw [hw6]; exact HOw4.out
                clear hw6 k0 k1 k2 x0 x1 x2
                obtain ⟨k0, k1, k2, x0, x1, x2⟩ := HCELL.out w6 HBw6.out
                go_wp2_with (at_builtin; refine wpList_append_rd _ rfl (.tmp 62) (.tmp 67) _ rfl w2.heap.size tCh ti _ 3 40 Try.underlying36 HI.out HZ.out HS.out HB.out rfl (by omega) _ _ _ rfl (own_up HOw6.out _) _ 1 1 _ rfl (rdx_up w6 (⟨xk, xv, xg⟩ : Ch)) ?_ ?_ ?_ ?_)
                · (try simp only [List.length_append, List.length_singleton]); unfold maxLen; omega
                · (try simp only [List.length_append, List.length_singleton]); omega
                · exact Nat.le_trans HBw6.out.size (by simp)
                intro vw7 w7 hownw7 hgw7 _
                have HBw7 := Lib.hid ((HBw6.out.alloc HBw6.out.size _).grown hgw7 (Nat.le_trans HBw6.out.size (by simp)) (fun g' hg' => (HOw6.out.lt g' hg').1))
                have HOw7 : Hid (w7.ownsRow w2.heap.size tCh 3 vw7 (nx ++ [(⟨xk, xv, xg⟩ : Ch)]).length (ccells (nx ++ [(⟨xk, xv, xg⟩ : Ch)]))) := by
                  show w7.ownsRow w2.heap.size tCh 3 vw7 (nx ++ [(⟨xk, xv, xg⟩ : Ch)]).length (ccells (nx ++ [(⟨xk, xv, xg⟩ : Ch)]))
                  have h := hownw7
                  simp only [List.length_append, List.length_singleton, ccells_append] at h ⊢
                  exact h
                clear hownw7 hgw7
                go_wp2
                go_roundw
                case rel => exact ⟨j + 1, nx ++ [(⟨xk, xv, xg⟩ : Ch)], true, by omega, by go_num, rfl, HOw7.out, by rw [← HEQ.out, HDR.out, HAH.out, HEK.out]; simp, HBw7.out⟩
                case measure => simp [intOf]; omega
              | false =>
                have HBw3 := HBE
                have HOw3 := HOW
                obtain ⟨k0, k1, k2, x0, x1, x2⟩ := HCELL.out w3 HBw3.out
                go_wp2_with fail
                go_quiet (fail)
                obtain ⟨w4, hw4⟩ : ∃ z, z = w3.drewN nq := ⟨_, rfl⟩
                rw [← hw4]
                have HBw4 : Hid (Below w2.heap.size w2 w4) := by rw [hw4]; exact below_drewN HBw3.out nq
                have HOw4 : Hid (w4.ownsRow w2.heap.size tCh 3 u7 (nx).length (ccells (nx))) := by rw [hw4]; exact HOw3.out
                clear hw4 k0 k1 k2 x0 x1 x2
                obtain ⟨k0, k1, k2, x0, x1, x2⟩ := HCELL.out w4 HBw4.out
                go_wp2_with (at_builtin; refine wpList_append_rd _ rfl (.tmp 44) (.tmp 49) _ rfl w2.heap.size tCh ti _ 3 40 Try.underlying36 HI.out HZ.out HS.out HB.out rfl (by omega) _ _ _ rfl (own_up HOw4.out _) _ 1 1 _ rfl (rdx_up w4 (⟨ck, cv, cg⟩ : Ch)) ?_ ?_ ?_ ?_)
                · (try simp only [List.length_append, List.length_singleton]); unfold maxLen; omega
                · (try simp only [List.length_append, List.length_singleton]); omega
                · exact Nat.le_trans HBw4.out.size (by simp)
                intro vw5 w5 hownw5 hgw5 _
                have HBw5 := Lib.hid ((HBw4.out.alloc HBw4.out.size _).grown hgw5 (Nat.le_trans HBw4.out.size (by simp)) (fun g' hg' => (HOw4.out.lt g' hg').1))
                have HOw5 : Hid (w5.ownsRow w2.heap.size tCh 3 vw5 (nx ++ [(⟨ck, cv, cg⟩ : Ch)]).length (ccells (nx ++ [(⟨ck, cv, cg⟩ : Ch)]))) := by
                  show w5.ownsRow w2.heap.size tCh 3 vw5 (nx ++ [(⟨ck, cv, cg⟩ : Ch)]).length (ccells (nx ++ [(⟨ck, cv, cg⟩ : Ch)]))
                  have h := hownw5
                  simp only [List.length_append, List.length_singleton, ccells_append] at h ⊢
                  exact h
                clear hownw5 hgw5
                clear k0 k1 k2 x0 x1 x2
                obtain ⟨k0, k1, k2, x0, x1, x2⟩ := HCELL.out w5 HBw5.out
                go_wp2_with fail
                go_quiet (fail)
                obtain ⟨w6, hw6⟩ : ∃ z, z = w5.drewN nq := ⟨_, rfl⟩
                rw [← hw6]
                have HBw6 : Hid (Below w2.heap.size w2 w6) := by rw [hw6]; exact below_drewN HBw5.out nq
                have HOw6 : Hid (w6.ownsRow w2.heap.size tCh 3 vw5 (nx ++ [(⟨ck, cv, cg⟩ : Ch)]).length (ccells (nx ++ [(⟨ck, cv, cg⟩ : Ch)]))) := by rw [hw6]; exact HOw5.out
                clear hw6 k0 k1 k2 x0 x1 x2
                obtain ⟨k0, k1, k2, x0, x1, x2⟩ := HCELL.out w6 HBw6.out
                go_wp2_with (at_builtin; refine wpList_append_rd _ rfl (.tmp 62) (.tmp 67) _ rfl w2.heap.size tCh ti _ 3 40 Try.underlying36 HI.out HZ.out HS.out HB.out rfl (by omega) _ _ _ rfl (own_up HOw6.out _) _ 1 1 _ rfl (rdx_up w6 (⟨xk, xv, xg⟩ : Ch)) ?_ ?_ ?_ ?_)
                · (try simp only [List.length_append, List.length_singleton]); unfold maxLen; omega
                · (try simp only [List.length_append, List.length_singleton]); omega
                · exact Nat.le_trans HBw6.out.size (by simp)
                intro vw7 w7 hownw7 hgw7 _
                have HBw7 := Lib.hid ((HBw6.out.alloc HBw6.out.size _).grown hgw7 (Nat.le_trans HBw6.out.size (by simp)) (fun g' hg' => (HOw6.out.lt g' hg').1))
                have HOw7 : Hid (w7.ownsRow w2.heap.size tCh 3 vw7 ((nx ++ [(⟨ck, cv, cg⟩ : Ch)]) ++ [(⟨xk, xv, xg⟩ : Ch)]).length (ccells ((nx ++ [(⟨ck, cv, cg⟩ : Ch)]) ++ [(⟨xk, xv, xg⟩ : Ch)]))) := by
                  show w7.ownsRow w2.heap.size tCh 3 vw7 ((nx ++ [(⟨ck, cv, cg⟩ : Ch)]) ++ [(⟨xk, xv, xg⟩ : Ch)]).length (ccells ((nx ++ [(⟨ck, cv, cg⟩ : Ch)]) ++ [(⟨xk, xv, xg⟩ : Ch)]))
                  have h := hownw7
                  simp only [List.length_append, List.length_singleton, ccells_append] at h ⊢
                  exact h
                clear hownw7 hgw7
                go_wp2
                go_roundw
                case rel => exact ⟨j + 1, (nx ++ [(⟨ck, cv, cg⟩ : Ch)]) ++ [(⟨xk, xv, xg⟩ : Ch)], true, by omega, by go_num, rfl, HOw7.out, by rw [← HEQ.out, HDR.out, HAH.out, HEK.out]; simp, HBw7.out⟩
                case measure => simp [intOf]; omega
          | false =>
            have HAH : Hid (ahead ⟨ck, cv, cg⟩ ⟨xk, xv, xg⟩ = false) := hah
            cases hek : (xk.toList == ck.toList) with
            | true =>
              have HEK : Hid (((⟨xk, xv, xg⟩ : Ch).key == (⟨ck, cv, cg⟩ : Ch).key) = true) := by
                show (xk == ck) = true
                rw [toList_inj (beq_iff_eq.1 hek)]; simp
              exfalso
              have h1 := ahead_lt (c := ⟨ck, cv, cg⟩) (x := ⟨xk, xv, xg⟩) hah
              have h2 : xk = ck := toList_inj (beq_iff_eq.1 hek)
              exact lt_ne h1 h2
            | false =>
              have HEK : Hid (((⟨xk, xv, xg⟩ : Ch).key == (⟨ck, cv, cg⟩ : Ch).key) = false) := by
                show (xk == ck) = false
                rw [beq_eq_false_iff_ne]; intro e; rw [e] at hek; simp at hek
              cases laid with
              | true =>
                have HBw3 := HBE
                have HOw3 := HOW
                obtain ⟨k0, k1, k2, x0, x1, x2⟩ := HCELL.out w3 HBw3.out
                go_wp2_with fail
                go_quiet (fail)
                obtain ⟨w4, hw4⟩ : ∃ z, z = w3.drewN nq := ⟨_, rfl⟩
                rw [← hw4]
                have HBw4 : Hid (Below w2.heap.size w2 w4) := by rw [hw4]; exact below_drewN HBw3.out nq
                have HOw4 : Hid (w4.ownsRow w2.heap.size tCh 3 u7 (nx).length (ccells (nx))) := by rw [hw4]; exact HOw3.out
                clear hw4 k0 k1 k2 x0 x1 x2
                obtain ⟨k0, k1, k2, x0, x1, x2⟩ := HCELL.out w4 HBw4.out
                go_wp2_with fail
                go_quiet (fail)
                obtain ⟨w6, hw6⟩ : ∃ z, z = w4.drewN nq := ⟨_, rfl⟩
                rw [← hw6]
                have HBw6 : Hid (Below w2.heap.size w2 w6) := by rw [hw6]; exact below_drewN HBw4.out nq
                have HOw6 : Hid (w6.ownsRow w2.heap.size tCh 3 u7 (nx).length (ccells (nx))) := by rw [hw6]; exact HOw4.out
                clear hw6 k0 k1 k2 x0 x1 x2
                obtain ⟨k0, k1, k2, x0, x1, x2⟩ := HCELL.out w6 HBw6.out
                go_wp2_with (at_builtin; refine wpList_append_rd _ rfl (.tmp 62) (.tmp 67) _ rfl w2.heap.size tCh ti _ 3 40 Try.underlying36 HI.out HZ.out HS.out HB.out rfl (by omega) _ _ _ rfl (own_up HOw6.out _) _ 1 1 _ rfl (rdx_up w6 (⟨xk, xv, xg⟩ : Ch)) ?_ ?_ ?_ ?_)
                · (try simp only [List.length_append, List.length_singleton]); unfold maxLen; omega
                · (try simp only [List.length_append, List.length_singleton]); omega
                · exact Nat.le_trans HBw6.out.size (by simp)
                intro vw7 w7 hownw7 hgw7 _
                have HBw7 := Lib.hid ((HBw6.out.alloc HBw6.out.size _).grown hgw7 (Nat.le_trans HBw6.out.size (by simp)) (fun g' hg' => (HOw6.out.lt g' hg').1))
                have HOw7 : Hid (w7.ownsRow w2.heap.size tCh 3 vw7 (nx ++ [(⟨xk, xv, xg⟩ : Ch)]).length (ccells (nx ++ [(⟨xk, xv, xg⟩ : Ch)]))) := by
                  show w7.ownsRow w2.heap.size tCh 3 vw7 (nx ++ [(⟨xk, xv, xg⟩ : Ch)]).length (ccells (nx ++ [(⟨xk, xv, xg⟩ : Ch)]))
                  have h := hownw7
                  simp only [List.length_append, List.length_singleton, ccells_append] at h ⊢
                  exact h
                clear hownw7 hgw7
                go_wp2
                go_roundw
                case rel => exact ⟨j + 1, nx ++ [(⟨xk, xv, xg⟩ : Ch)], true, by omega, by go_num, rfl, HOw7.out, by rw [← HEQ.out, HDR.out, HAH.out, HEK.out]; simp, HBw7.out⟩
                case measure => simp [intOf]; omega
              | false =>
                have HBw3 := HBE
                have HOw3 := HOW
                obtain ⟨k0, k1, k2, x0, x1, x2⟩ := HCELL.out w3 HBw3.out
                go_wp2_with fail
                go_quiet (fail)
                obtain ⟨w4, hw4⟩ : ∃ z, z = w3.drewN nq := ⟨_, rfl⟩
                rw [← hw4]
                have HBw4 : Hid (Below w2.heap.size w2 w4) := by rw [hw4]; exact below_drewN HBw3.out nq
                have HOw4 : Hid (w4.ownsRow w2.heap.size tCh 3 u7 (nx).length (ccells (nx))) := by rw [hw4]; exact HOw3.out
                clear hw4 k0 k1 k2 x0 x1 x2
                obtain ⟨k0, k1, k2, x0, x1, x2⟩ := HCELL.out w4 HBw4.out
                go_wp2_with fail
                go_quiet (fail)
                obtain ⟨w6, hw6⟩ : ∃ z, z = w4.drewN nq := ⟨_, rfl⟩
                rw [← hw6]
                have HBw6 : Hid (Below w2.heap.size w2 w6) := by rw [hw6]; exact below_drewN HBw4.out nq
                have HOw6 : Hid (w6.ownsRow w2.heap.size tCh 3 u7 (nx).length (ccells (nx))) := by rw [hw6]; exact HOw4.out
                clear hw6 k0 k1 k2 x0 x1 x2
                obtain ⟨k0, k1, k2, x0, x1, x2⟩ := HCELL.out w6 HBw6.out
                go_wp2_with (at_builtin; refine wpList_append_rd _ rfl (.tmp 62) (.tmp 67) _ rfl w2.heap.size tCh ti _ 3 40 Try.underlying36 HI.out HZ.out HS.out HB.out rfl (by omega) _ _ _ rfl (own_up HOw6.out _) _ 1 1 _ rfl (rdx_up w6 (⟨xk, xv, xg⟩ : Ch)) ?_ ?_ ?_ ?_)
                · (try simp only [List.length_append, List.length_singleton]); unfold maxLen; omega
                · (try simp only [List.length_append, List.length_singleton]); omega
                · exact Nat.le_trans HBw6.out.size (by simp)
                intro vw7 w7 hownw7 hgw7 _
                have HBw7 := Lib.hid ((HBw6.out.alloc HBw6.out.size _).grown hgw7 (Nat.le_trans HBw6.out.size (by simp)) (fun g' hg' => (HOw6.out.lt g' hg').1))
                have HOw7 : Hid (w7.ownsRow w2.heap.size tCh 3 vw7 (nx ++ [(⟨xk, xv, xg⟩ : Ch)]).length (ccells (nx ++ [(⟨xk, xv, xg⟩ : Ch)]))) := by
                  show w7.ownsRow w2.heap.size tCh 3 vw7 (nx ++ [(⟨xk, xv, xg⟩ : Ch)]).length (ccells (nx ++ [(⟨xk, xv, xg⟩ : Ch)]))
                  have h := hownw7
                  simp only [List.length_append, List.length_singleton, ccells_append] at h ⊢
                  exact h
                clear hownw7 hgw7
                go_wp2
                go_roundw
                case rel => exact ⟨j + 1, nx ++ [(⟨xk, xv, xg⟩ : Ch)], false, by omega, by go_num, rfl, HOw7.out, by rw [← HEQ.out, HDR.out, HAH.out, HEK.out]; simp, HBw7.out⟩
                case measure => simp [intOf]; omega
        · obtain rfl : j = out.length := by omega
          have hend : nx ++ insG c laid [] = insG c c.gone out := by have := HEQ.out; rwa [List.drop_of_length_le (Nat.le_refl _)] at this
          have HEND := Lib.hid hend
          have htk : l.take (k + 1) = l.take k ++ [c] := by rw [List.take_add_one, HCC.out]; rfl
          have hap2 : ApplyOf (rows ++ l.take (k + 1)) (insG c c.gone out) := by rw [htk, ← List.append_assoc]; exact HAP.out.ins c
          have HAP2 := Lib.hid hap2
          have hlen2 := insG_len c c.gone out
          have hbw3 : Below w.heap.size w w3 := HBW.out.trans (HBE.out.mono HBW.out.size)
          have HBW3 := Lib.hid hbw3
          clear hend htk hap2 hbw3 HEQ
          cases laid with
          | true =>
            go_wp2
            go_roundw
            case rel => exact ⟨k + 1, nx, by omega, by go_num, own_mono HOW.out HBW.out.size, by have := HAP2.out; rw [← HEND.out] at this; simpa [insG] using this, by have := congrArg List.length HEND.out; simp [insG] at this; omega, HBW3.out⟩
            case measure => simp [intOf]; omega
          | false =>
            have hk3 := fun (W : World) (hW : Below w2.heap.size w2 W) => And.intro ((hW.cell (p := ⟨b1, off1 + k * 3, none⟩) hb1l).trans HK.out.1) (And.intro ((hW.cell (p := ⟨b1, off1 + k * 3 + 1, none⟩) hb1l).trans HK.out.2.1) ((hW.cell (p := ⟨b1, off1 + k * 3 + 2, none⟩) hb1l).trans HK.out.2.2))
            obtain ⟨k0, k1, k2⟩ := hk3 w3 HBE.out
            obtain ⟨ck, cv, cg⟩ := c
            simp only at k0 k1 k2
            have HBw3 := HBE
            have HOw3 := HOW
            clear hk3
            go_wp2_with (at_builtin; refine wpList_append_rd _ rfl (.tmp 71) (.tmp 76) _ rfl w2.heap.size tCh ti _ 3 40 Try.underlying36 HI.out HZ.out HS.out HB.out rfl (by omega) _ _ _ rfl (own_up HOw3.out _) _ 1 1 _ rfl (rdx_up w3 (⟨ck, cv, cg⟩ : Ch)) ?_ ?_ ?_ ?_)
            · (try simp only [List.length_append, List.length_singleton]); unfold maxLen; omega
            · (try simp only [List.length_append, List.length_singleton]); omega
            · exact Nat.le_trans HBw3.out.size (by simp)
            intro vw5 w5 hownw5 hgw5 _
            have HBw5 := Lib.hid ((HBw3.out.alloc HBw3.out.size _).grown hgw5 (Nat.le_trans HBw3.out.size (by simp)) (fun g' hg' => (HOw3.out.lt g' hg').1))
            have HOw5 : Hid (w5.ownsRow w2.heap.size tCh 3 vw5 (nx ++ [(⟨ck, cv, cg⟩ : Ch)]).length (ccells (nx ++ [(⟨ck, cv, cg⟩ : Ch)]))) := by
              show w5.ownsRow w2.heap.size tCh 3 vw5 (nx ++ [(⟨ck, cv, cg⟩ : Ch)]).length (ccells (nx ++ [(⟨ck, cv, cg⟩ : Ch)]))
              have h := hownw5
              simp only [List.length_append, List.length_singleton, ccells_append] at h ⊢
              exact h
            clear hownw5 hgw5
            go_wp2
            go_roundw
            case rel => exact ⟨k + 1, nx ++ [(⟨ck, cv, cg⟩ : Ch)], by omega, by go_num, own_mono HOw5.out HBW.out.size, by have := HAP2.out; rw [← HEND.out] at this; simpa [insG] using this, by have := congrArg List.length HEND.out; simp [insG] at this ⊢; omega, HBW.out.trans (HBw5.out.mono HBW.out.size)⟩
            case measure => simp [intOf]; omega
    · obtain rfl : k = n2 := by omega
      go_wp2
      go_ret
      exact ⟨_, out, rfl, HO.out, by have := HAP.out; rwa [List.take_of_length_le (by rw [HL2.out]; exact Nat.le_refl _)] at this, HBW.out⟩
end Go.Proofs.Ytgkenknplepmeaa
