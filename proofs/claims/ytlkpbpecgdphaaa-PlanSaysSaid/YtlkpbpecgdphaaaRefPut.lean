/-
  WALKS: hammerpondref.Put over sorted lists of at most 900000 files.
-/
import Derived.Test.YtlkpbpecgdphaaaRefGet
namespace Go.Proofs.Ytlkpbpecgdphaaa
open Go.RowKit

theorem RdF_one (w : World) (x t : ByteArray) (e : TypeId) : RdF (w.alloc (.cells #[.string x, .string t] e)) (w.heap.size + 1) (some ⟨w.heap.size, 0, none⟩) 1 1 [(x, t)] := by
  refine ⟨rfl, Nat.le_refl _, by unfold maxLen; omega, fun _ => ⟨w.heap.size, 0, rfl, by omega, fun j u hu => ?_⟩⟩
  rw [World.cell?_alloc_at _ _ _ _ rfl]
  match j with
  | 0 => simpa [fcells] using hu
  | 1 => simpa [fcells] using hu
  | j + 2 => simp [fcells] at hu
theorem owns_len {w : World} {base : Nat} {e : TypeId} {v : Value} {n : Nat} {l : List F} (h : w.ownsRow base e 2 v n (fcells l)) : w.ownsRow base e 2 v l.length (fcells l) := by
  have : l.length = n := by have := h.1; rw [fcells_len] at this; omega
  rw [this]; exact h

/-! hammerpondref.Put. -/
def PutAt (l : List F) (f : F) (k : Nat) (laid : Bool) (out : List F) : Prop :=
  (laid = false ∧ out = l.take k ∧ ∀ g ∈ l.take k, lt g.1 f.1 = true) ∨ (laid = true ∧ out = putF (l.take k) f ∧ ∃ g ∈ l.take k, lt g.1 f.1 = false)
theorem take_next {l : List F} {k : Nat} {g : F} (h : l[k]? = some g) : l.take (k + 1) = l.take k ++ [g] := by
  obtain ⟨hl, rfl⟩ := List.getElem?_eq_some_iff.1 h
  exact List.take_succ_eq_append_getElem hl
theorem put_snoc (a : List F) (f g : F) : putF (a ++ [g]) f = lo a f.1 ++ (if lt g.1 f.1 = true then [g] else []) ++ f :: (hi a f.1 ++ if lt f.1 g.1 = true then [g] else []) := by
  simp only [putF, lo, hi, List.filter_append]
  by_cases h1 : lt g.1 f.1 = true <;> by_cases h2 : lt f.1 g.1 = true <;> simp [h1, h2]
theorem put_a {l : List F} {f g : F} {k : Nat} {out : List F} (h : PutAt l f k false out) (hg : l[k]? = some g) (hl : lt g.1 f.1 = true) : PutAt l f (k + 1) false (out ++ [g]) := by
  rcases h with ⟨_, rfl, h⟩ | ⟨h, _⟩
  · refine .inl ⟨rfl, (take_next hg).symm, fun g' hg' => ?_⟩
    rw [take_next hg, List.mem_append, List.mem_singleton] at hg'
    rcases hg' with h1 | rfl
    · exact h g' h1
    · exact hl
  · cases h
theorem lo_all {a : List F} {x : ByteArray} (h : ∀ g ∈ a, lt g.1 x = true) : lo a x = a ∧ hi a x = [] := ⟨filter_all h, filter_none fun g hg => lt_asymm (h g hg)⟩
theorem put_b {l : List F} {f g : F} {k : Nat} {out : List F} (h : PutAt l f k false out) (hg : l[k]? = some g) (hl : g.1 = f.1) : PutAt l f (k + 1) true (out ++ [f]) := by
  rcases h with ⟨_, rfl, h⟩ | ⟨h, _⟩
  · refine .inr ⟨rfl, ?_, g, by rw [take_next hg]; simp, by rw [hl, lt_irrefl]⟩
    rw [take_next hg, put_snoc, hl, lt_irrefl, (lo_all h).1, (lo_all h).2]
    simp
  · cases h
theorem put_c {l : List F} {f g : F} {k : Nat} {out : List F} (h : PutAt l f k false out) (hg : l[k]? = some g) (hl : lt f.1 g.1 = true) : PutAt l f (k + 1) true (out ++ [f] ++ [g]) := by
  rcases h with ⟨_, rfl, h⟩ | ⟨h, _⟩
  · refine .inr ⟨rfl, ?_, g, by rw [take_next hg]; simp, lt_asymm hl⟩
    rw [take_next hg, put_snoc, hl, lt_asymm hl, (lo_all h).1, (lo_all h).2]
    simp
  · cases h
theorem put_d {l : List F} {f g : F} {k : Nat} {out : List F} (hs : Rises l) (h : PutAt l f k true out) (hg : l[k]? = some g) : lt f.1 g.1 = true ∧ PutAt l f (k + 1) true (out ++ [g]) := by
  rcases h with ⟨h, _⟩ | ⟨_, rfl, h', hm, hlt⟩
  · cases h
  · have hr : lt h'.1 g.1 = true := by
      have hp : Rises (l.take (k + 1)) := List.Pairwise.sublist (List.take_sublist _ _) hs
      rw [take_next hg] at hp
      exact (List.pairwise_append.1 hp).2.2 h' hm g (by simp)
    have hfg : lt f.1 g.1 = true := by
      cases e : lt f.1 g.1 with
      | true => rfl
      | false =>
        cases e2 : lt g.1 f.1 with
        | true => have := lt_trans hr e2; rw [hlt] at this; cases this
        | false => have := lt_tri e2 e; rw [this] at hr; rw [hlt] at hr; cases hr
    refine ⟨hfg, .inr ⟨rfl, ?_, h', by rw [take_next hg]; simp [hm], hlt⟩⟩
    rw [take_next hg, put_snoc, hfg, lt_asymm hfg]
    simp [putF]
theorem put_end {l : List F} {f : F} {out : List F} (h : PutAt l f l.length false out) : out ++ [f] = putF l f := by
  rcases h with ⟨_, rfl, h⟩ | ⟨h, _⟩
  · rw [List.take_length] at h ⊢
    rw [putF, (lo_all h).1, (lo_all h).2]
  · cases h
theorem put_end' {l : List F} {f : F} {out : List F} (h : PutAt l f l.length true out) : out = putF l f := by
  rcases h with ⟨h, _⟩ | ⟨_, rfl, _⟩
  · cases h
  · rw [List.take_length]
theorem put_len {l : List F} {f : F} {k : Nat} {b : Bool} {out : List F} (hs : Rises l) (h : PutAt l f k b out) : out.length ≤ l.length + 1 := by
  rcases h with ⟨_, rfl, _⟩ | ⟨_, rfl, _⟩
  · rw [List.length_take]; omega
  · have := len_put_le (l := l.take k) (List.Pairwise.sublist (List.take_sublist _ _) hs) f
    rw [List.length_take] at this; omega

structure PutRel (w0 : World) (B : Nat) (l : List F) (x t : ByteArray) (v b i : Value) (wr : World) : Prop where
  ex : ∃ (k : Nat) (laid : Bool) (out : List F), k ≤ l.length ∧ i = .int .i64 k ∧ b = .bool laid ∧ wr.ownsRow B 57 2 v out.length (fcells out) ∧ PutAt l (x, t) k laid out ∧ Below B w0 wr

/-- How the world stands in a round: the row of the call's own, the box, the element. -/
structure PS (w0 : World) (B pb gb go : Nat) (x t gx gt : ByteArray) (wq : World) (v : Value) (out : List F) : Prop where
  own : wq.ownsRow B 57 2 v out.length (fcells out)
  bel : Below B w0 wq
  sz : B ≤ wq.heap.size
  pl : pb < B
  gl : gb < B
  y0 : wq.cell? ⟨pb, 0, none⟩ = some (.string x)
  y1 : wq.cell? ⟨pb, 1, none⟩ = some (.string t)
  d1 : wq.cell? ⟨gb, go, none⟩ = some (.string gx)
  d2 : wq.cell? ⟨gb, go + 1, none⟩ = some (.string gt)
theorem PS.drewN {w0 : World} {B pb gb go : Nat} {x t gx gt : ByteArray} {wq : World} {v : Value} {out : List F} (h : PS w0 B pb gb go x t gx gt wq v out) (k : Nat) : PS w0 B pb gb go x t gx gt (wq.drewN k) v out :=
  ⟨h.own, ⟨h.bel.os, h.bel.tape, h.bel.output, h.bel.size, h.bel.block⟩, h.sz, h.pl, h.gl, h.y0, h.y1, h.d1, h.d2⟩
theorem PS.step {w0 : World} {B pb gb go : Nat} {x t gx gt : ByteArray} {wq : World} {v : Value} {out : List F} (h : PS w0 B pb gb go x t gx gt wq v out) {o : Obj} {v2 : Value} {w2 : World} {f : F}
    (hown : w2.ownsRow B 57 2 v2 (out.length + 1) (fcells (out ++ [f]))) (hg : (wq.alloc o).grownBy w2 v.ownBlock) : PS w0 B pb gb go x t gx gt w2 v2 (out ++ [f]) := by
  have hb1 : Below B wq (wq.alloc o) := (Below.refl _ _).alloc h.sz _
  have hb2 : Below B wq w2 := hb1.grown hg (Nat.le_trans h.sz hb1.size) (fun g' hg' => (h.own.lt g' hg').1)
  exact ⟨owns_len hown, h.bel.trans hb2, Nat.le_trans h.sz hb2.size, h.pl, h.gl, (hb2.cell (p := ⟨pb, 0, none⟩) h.pl).trans h.y0, (hb2.cell (p := ⟨pb, 1, none⟩) h.pl).trans h.y1,
    (hb2.cell (p := ⟨gb, go, none⟩) h.gl).trans h.d1, (hb2.cell (p := ⟨gb, go + 1, none⟩) h.gl).trans h.d2⟩

set_option maxHeartbeats 4000000 in
set_option maxRecDepth 100000 in
theorem refPut_any (A : Option Addr) (n c : Nat) (l : List F) (x t : ByteArray) (w : World) (h : RdF w w.heap.size A n c l) (hs : Rises l) (hn : n ≤ 900000) :
    Calls Try.prog 50 #[.slice A n c, .agg #[.string x, .string t]] w fun e w' => ∃ v, e = .returned v ∧ w'.ownsRow w.heap.size 57 2 v (putF l (x, t)).length (fcells (putF l (x, t))) ∧ Below w.heap.size w w' := by
  obtain ⟨i, hi, hz, hsz, hby⟩ := file_parts
  have HI := Lib.hid hi
  have HZ := Lib.hid hz
  have HS := Lib.hid hsz
  have HB := Lib.hid hby
  have HL := Lib.hid h.1
  clear hi hz hsz hby
  have hb0 : Below w.heap.size w (w.alloc (.cells #[.string x, .string t] 57)) := (Below.refl _ _).alloc (Nat.le_refl _) _
  have hz0 : (w.alloc (.cells #[.string x, .string t] 57)).heap.size = w.heap.size + 1 := by simp
  have HZ0 := Lib.hid hz0
  have HR := Lib.hid (h.below hb0)
  have x0 : (w.alloc (.cells #[.string x, .string t] 57)).cell? ⟨w.heap.size, 0, none⟩ = some (.string x) := by rw [World.cell?_alloc_at _ _ _ _ rfl]; rfl
  have x1 : (w.alloc (.cells #[.string x, .string t] 57)).cell? ⟨w.heap.size, 1, none⟩ = some (.string t) := by rw [World.cell?_alloc_at _ _ _ _ rfl]; rfl
  have X0 := Lib.hid x0
  have X1 := Lib.hid x1
  clear h hz0 x0 x1
  go_enter Try.func50, Try.ntmps50
  go_wp2
  generalize w.alloc (.cells #[.string x, .string t] 57) = w0 at *
  go_loopw [5, 6, 7] (fun v b j wr => PutRel w0 (w.heap.size + 1) l x t v b j wr) (fun _ _ j _ => n - (intOf j).toNat)
  case atStart => exact ⟨0, false, [], Nat.zero_le _, rfl, rfl, World.ownsRow_nil _ _ _ _, .inl ⟨rfl, rfl, by simp⟩, Below.refl _ _⟩
  case round =>
    obtain ⟨k, laid, out, hk, rfl, rfl, hown, hat, hb⟩ := hrel.ex
    clear hrel
    have hkn : k ≤ n := by rw [← HL.out]; exact hk
    have hsw : w.heap.size + 1 ≤ wr.heap.size := by rw [← HZ0.out]; exact hb.size
    have hol := put_len hs hat
    rw [HL.out] at hol
    have HO := Lib.hid hown
    have HA := Lib.hid hat
    clear hown hat hk
    by_cases hlt : k < n
    · obtain ⟨f, hf⟩ : ∃ f, l[k]? = some f := ⟨_, List.getElem?_eq_getElem (by rw [HL.out]; exact hlt)⟩
      obtain ⟨b', off, rfl, hbb, hc1, hc2⟩ := HR.out.at_ hf
      have hkz : (k : Int) < (n : Int) := by omega
      have psq : PS w0 (w.heap.size + 1) w.heap.size b' (off + k * 2) x t f.1 f.2 wr u5 out :=
        ⟨HO.out, hb, hsw, by omega, by omega, (hb.cell (p := ⟨w.heap.size, 0, none⟩) (by simp)).trans X0.out, (hb.cell (p := ⟨w.heap.size, 1, none⟩) (by simp)).trans X1.out, (hb.cell (p := ⟨b', off + k * 2, none⟩) (by simp; omega)).trans hc1, (hb.cell (p := ⟨b', off + k * 2 + 1, none⟩) (by simp; omega)).trans hc2⟩
      have PSH := Lib.hid psq
      have y0 := psq.y0
      have y1 := psq.y1
      have d1 := psq.d1
      have d2 := psq.d2
      have HF := Lib.hid hf
      clear hc1 hc2 hf psq hb
      obtain ⟨gx, gt⟩ := f
      cases laid with
      | true =>
        have hd := put_d hs HA.out HF.out
        have q1 : (gx.toList == x.toList) = false := by
          rw [beq_eq_false_iff_ne]
          intro e
          exact lt_ne hd.1 (toList_inj e).symm
        have HD := Lib.hid hd.2
        clear hd HA HO
        go_wp2
        go_quiet (fail)
        generalize hwq : World.drewN wr _ = wa
        have psq : PS w0 (w.heap.size + 1) w.heap.size b' (off + k * 2) x t gx gt wa u5 out := by rw [← hwq]; exact PSH.out.drewN _
        clear hwq y0 y1 d1 d2 PSH
        have PSH := Lib.hid psq
        have y0 := psq.y0
        have y1 := psq.y1
        have d1 := psq.d1
        have d2 := psq.d2
        clear psq
        go_wp2
        go_quiet (fail)
        generalize hwq : World.drewN wa _ = wb
        have psq : PS w0 (w.heap.size + 1) w.heap.size b' (off + k * 2) x t gx gt wb u5 out := by rw [← hwq]; exact PSH.out.drewN _
        clear hwq y0 y1 d1 d2 PSH
        have PSH := Lib.hid psq
        have y0 := psq.y0
        have y1 := psq.y1
        have d1 := psq.d1
        have d2 := psq.d2
        clear psq
        have HO1 := Lib.hid (PSH.out.own.alloc (.cells #[.string gx, .string gt] 57))
        have H1 := Lib.hid (RdF_one wb gx gt 57)
        have hsz1 := PSH.out.sz
        go_wp2_with (at_builtin; refine wpList_append_files _ rfl (.tmp 38) (.tmp 43) _ rfl (w.heap.size + 1) 57 i _ 32 Try.underlying22 HI.out HZ.out HS.out HB.out rfl _ _ _ rfl HO1.out _ _ 1 1 [(gx, gt)] rfl H1.out ?_ ?_ ?_ ?_)
        · unfold maxLen; first | omega | (simp only [List.length_append, List.length_cons, List.length_nil]; omega)
        · first | omega | (simp only [List.length_append, List.length_cons, List.length_nil]; omega)
        · simp; omega
        intro v2 w2 hown2 hg2
        have psq := PSH.out.step hown2 hg2
        clear hown2 hg2 HO1 H1 hsz1 y0 y1 d1 d2 PSH
        have PSH := Lib.hid psq
        have y0 := psq.y0
        have y1 := psq.y1
        have d1 := psq.d1
        have d2 := psq.d2
        clear psq
        go_wp2
        go_roundw
        case rel => exact ⟨k + 1, true, _, by rw [HL.out]; omega, by go_num, rfl, PSH.out.own, HD.out, PSH.out.bel⟩
        case measure => simp [intOf]; omega
      | false =>
        cases hlx : lt gx x with
        | true =>
          have q1 : (gx.toList == x.toList) = false := by
            rw [beq_eq_false_iff_ne]
            intro e
            exact lt_ne hlx (toList_inj e)
          have q2 : (Op.bytesLess x.toList gx.toList || x.toList == gx.toList) = false := by
            rw [Bool.or_eq_false_iff, beq_eq_false_iff_ne]
            exact ⟨lt_asymm hlx, fun e => lt_ne hlx (toList_inj e).symm⟩
          have HD := Lib.hid (put_a HA.out HF.out hlx)
          clear hlx HA HO
          go_wp2
          go_quiet (fail)
          generalize hwq : World.drewN wr _ = wa
          have psq : PS w0 (w.heap.size + 1) w.heap.size b' (off + k * 2) x t gx gt wa u5 out := by rw [← hwq]; exact PSH.out.drewN _
          clear hwq y0 y1 d1 d2 PSH
          have PSH := Lib.hid psq
          have y0 := psq.y0
          have y1 := psq.y1
          have d1 := psq.d1
          have d2 := psq.d2
          clear psq
          go_wp2
          go_quiet (fail)
          generalize hwq : World.drewN wa _ = wb
          have psq : PS w0 (w.heap.size + 1) w.heap.size b' (off + k * 2) x t gx gt wb u5 out := by rw [← hwq]; exact PSH.out.drewN _
          clear hwq y0 y1 d1 d2 PSH
          have PSH := Lib.hid psq
          have y0 := psq.y0
          have y1 := psq.y1
          have d1 := psq.d1
          have d2 := psq.d2
          clear psq
          have HO1 := Lib.hid (PSH.out.own.alloc (.cells #[.string gx, .string gt] 57))
          have H1 := Lib.hid (RdF_one wb gx gt 57)
          have hsz1 := PSH.out.sz
          go_wp2_with (at_builtin; refine wpList_append_files _ rfl (.tmp 38) (.tmp 43) _ rfl (w.heap.size + 1) 57 i _ 32 Try.underlying22 HI.out HZ.out HS.out HB.out rfl _ _ _ rfl HO1.out _ _ 1 1 [(gx, gt)] rfl H1.out ?_ ?_ ?_ ?_)
          · unfold maxLen; first | omega | (simp only [List.length_append, List.length_cons, List.length_nil]; omega)
          · first | omega | (simp only [List.length_append, List.length_cons, List.length_nil]; omega)
          · simp; omega
          intro v2 w2 hown2 hg2
          have psq := PSH.out.step hown2 hg2
          clear hown2 hg2 HO1 H1 hsz1 y0 y1 d1 d2 PSH
          have PSH := Lib.hid psq
          have y0 := psq.y0
          have y1 := psq.y1
          have d1 := psq.d1
          have d2 := psq.d2
          clear psq
          go_wp2
          go_roundw
          case rel => exact ⟨k + 1, false, _, by rw [HL.out]; omega, by go_num, rfl, PSH.out.own, HD.out, PSH.out.bel⟩
          case measure => simp [intOf]; omega
        | false =>
          cases hgx : lt x gx with
          | true =>
            clear hlx
            have q1 : (gx.toList == x.toList) = false := by
              rw [beq_eq_false_iff_ne]
              intro e
              exact lt_ne hgx (toList_inj e).symm
            have q2 : (Op.bytesLess x.toList gx.toList || x.toList == gx.toList) = true := by
              rw [Bool.or_eq_true]
              exact .inl hgx
            have HD := Lib.hid (put_c HA.out HF.out hgx)
            clear hgx HA HO
            go_wp2
            go_quiet (fail)
            generalize hwq : World.drewN wr _ = wa
            have psq : PS w0 (w.heap.size + 1) w.heap.size b' (off + k * 2) x t gx gt wa u5 out := by rw [← hwq]; exact PSH.out.drewN _
            clear hwq y0 y1 d1 d2 PSH
            have PSH := Lib.hid psq
            have y0 := psq.y0
            have y1 := psq.y1
            have d1 := psq.d1
            have d2 := psq.d2
            clear psq
            have HO1 := Lib.hid (PSH.out.own.alloc (.cells #[.string x, .string t] 57))
            have H1 := Lib.hid (RdF_one wa x t 57)
            have hsz1 := PSH.out.sz
            go_wp2_with (at_builtin; refine wpList_append_files _ rfl (.tmp 26) (.tmp 28) _ rfl (w.heap.size + 1) 57 i _ 32 Try.underlying22 HI.out HZ.out HS.out HB.out rfl _ _ _ rfl HO1.out _ _ 1 1 [(x, t)] rfl H1.out ?_ ?_ ?_ ?_)
            · unfold maxLen; first | omega | (simp only [List.length_append, List.length_cons, List.length_nil]; omega)
            · first | omega | (simp only [List.length_append, List.length_cons, List.length_nil]; omega)
            · simp; omega
            intro v2 w2 hown2 hg2
            have psq := PSH.out.step hown2 hg2
            clear hown2 hg2 HO1 H1 hsz1 y0 y1 d1 d2 PSH
            have PSH := Lib.hid psq
            have y0 := psq.y0
            have y1 := psq.y1
            have d1 := psq.d1
            have d2 := psq.d2
            clear psq
            go_wp2
            go_quiet (fail)
            generalize hwq : World.drewN w2 _ = wb
            have psq : PS w0 (w.heap.size + 1) w.heap.size b' (off + k * 2) x t gx gt wb v2 (out ++ [(x, t)]) := by rw [← hwq]; exact PSH.out.drewN _
            clear hwq y0 y1 d1 d2 PSH
            have PSH := Lib.hid psq
            have y0 := psq.y0
            have y1 := psq.y1
            have d1 := psq.d1
            have d2 := psq.d2
            clear psq
            have HO1 := Lib.hid (PSH.out.own.alloc (.cells #[.string gx, .string gt] 57))
            have H1 := Lib.hid (RdF_one wb gx gt 57)
            have hsz1 := PSH.out.sz
            go_wp2_with (at_builtin; refine wpList_append_files _ rfl (.tmp 38) (.tmp 43) _ rfl (w.heap.size + 1) 57 i _ 32 Try.underlying22 HI.out HZ.out HS.out HB.out rfl _ _ _ rfl HO1.out _ _ 1 1 [(gx, gt)] rfl H1.out ?_ ?_ ?_ ?_)
            · unfold maxLen; first | omega | (simp only [List.length_append, List.length_cons, List.length_nil]; omega)
            · first | omega | (simp only [List.length_append, List.length_cons, List.length_nil]; omega)
            · simp; omega
            intro v3 w3 hown2 hg2
            have psq := PSH.out.step (f := (gx, gt)) (by simpa using hown2) hg2
            clear hown2 hg2 HO1 H1 hsz1 y0 y1 d1 d2 PSH
            have PSH := Lib.hid psq
            have y0 := psq.y0
            have y1 := psq.y1
            have d1 := psq.d1
            have d2 := psq.d2
            clear psq
            go_wp2
            go_roundw
            case rel => exact ⟨k + 1, true, _, by rw [HL.out]; omega, by go_num, rfl, PSH.out.own, HD.out, PSH.out.bel⟩
            case measure => simp [intOf]; omega
          | false =>
            have hex : gx = x := lt_tri hlx hgx
            clear hlx hgx
            have q1 : (gx.toList == x.toList) = true := by rw [beq_iff_eq, hex]
            have q2 : (Op.bytesLess x.toList gx.toList || x.toList == gx.toList) = true := by
              rw [Bool.or_eq_true, beq_iff_eq, hex]
              exact .inr rfl
            have HD := Lib.hid (put_b HA.out HF.out hex)
            clear hex HA HO
            go_wp2
            go_quiet (fail)
            generalize hwq : World.drewN wr _ = wa
            have psq : PS w0 (w.heap.size + 1) w.heap.size b' (off + k * 2) x t gx gt wa u5 out := by rw [← hwq]; exact PSH.out.drewN _
            clear hwq y0 y1 d1 d2 PSH
            have PSH := Lib.hid psq
            have y0 := psq.y0
            have y1 := psq.y1
            have d1 := psq.d1
            have d2 := psq.d2
            clear psq
            have HO1 := Lib.hid (PSH.out.own.alloc (.cells #[.string x, .string t] 57))
            have H1 := Lib.hid (RdF_one wa x t 57)
            have hsz1 := PSH.out.sz
            go_wp2_with (at_builtin; refine wpList_append_files _ rfl (.tmp 26) (.tmp 28) _ rfl (w.heap.size + 1) 57 i _ 32 Try.underlying22 HI.out HZ.out HS.out HB.out rfl _ _ _ rfl HO1.out _ _ 1 1 [(x, t)] rfl H1.out ?_ ?_ ?_ ?_)
            · unfold maxLen; first | omega | (simp only [List.length_append, List.length_cons, List.length_nil]; omega)
            · first | omega | (simp only [List.length_append, List.length_cons, List.length_nil]; omega)
            · simp; omega
            intro v2 w2 hown2 hg2
            have psq := PSH.out.step hown2 hg2
            clear hown2 hg2 HO1 H1 hsz1 y0 y1 d1 d2 PSH
            have PSH := Lib.hid psq
            have y0 := psq.y0
            have y1 := psq.y1
            have d1 := psq.d1
            have d2 := psq.d2
            clear psq
            go_wp2
            go_quiet (fail)
            generalize hwq : World.drewN w2 _ = wb
            have psq : PS w0 (w.heap.size + 1) w.heap.size b' (off + k * 2) x t gx gt wb v2 (out ++ [(x, t)]) := by rw [← hwq]; exact PSH.out.drewN _
            clear hwq y0 y1 d1 d2 PSH
            have PSH := Lib.hid psq
            have y0 := psq.y0
            have y1 := psq.y1
            have d1 := psq.d1
            have d2 := psq.d2
            clear psq
            go_wp2
            go_roundw
            case rel => exact ⟨k + 1, true, _, by rw [HL.out]; omega, by go_num, rfl, PSH.out.own, HD.out, PSH.out.bel⟩
            case measure => simp [intOf]; omega
    · obtain rfl : k = n := by omega
      have y0 : wr.cell? ⟨w.heap.size, 0, none⟩ = some (.string x) := (hb.cell (p := ⟨w.heap.size, 0, none⟩) (by simp)).trans X0.out
      have y1 : wr.cell? ⟨w.heap.size, 1, none⟩ = some (.string t) := (hb.cell (p := ⟨w.heap.size, 1, none⟩) (by simp)).trans X1.out
      have hbw : Below w.heap.size w wr := hb0.trans (hb.mono (by omega))
      cases laid with
      | true =>
        have e := put_end' (by rw [HL.out]; exact HA.out)
        have HE := Lib.hid e
        clear e
        go_wp2
        go_ret
        exact ⟨_, rfl, by rw [← HE.out]; exact owns_less HO.out (by omega), hbw⟩
      | false =>
        have e := put_end (by rw [HL.out]; exact HA.out)
        have HE := Lib.hid e
        clear e
        have HO1 := Lib.hid (HO.out.alloc (.cells #[.string x, .string t] 57))
        have H1 := Lib.hid (RdF_one wr x t 57)
        have hb1 : Below w.heap.size w (wr.alloc (.cells #[.string x, .string t] 57)) := hbw.alloc hbw.size _
        have hs1 := hb1.size
        go_wp2_with (at_builtin; refine wpList_append_files _ rfl (.tmp 47) (.tmp 49) _ rfl (w.heap.size + 1) 57 i _ 32 Try.underlying22 HI.out HZ.out HS.out HB.out rfl _ _ _ rfl HO1.out _ _ 1 1 [(x, t)] rfl H1.out ?_ ?_ ?_ ?_)
        · unfold maxLen; omega
        · omega
        · simp; omega
        intro v2 w2 hown2 hg2
        have hb2 : Below w.heap.size w w2 := hb1.grown hg2 hs1 (fun g' hg' => by have := (HO.out.lt g' hg').1; omega)
        have HV := Lib.hid hown2
        clear hown2 HO1 H1 y0 y1 hs1
        go_wp2
        go_ret
        exact ⟨_, rfl, by rw [← HE.out]; exact owns_less (owns_len HV.out) (by omega), hb2⟩
end Go.Proofs.Ytlkpbpecgdphaaa
