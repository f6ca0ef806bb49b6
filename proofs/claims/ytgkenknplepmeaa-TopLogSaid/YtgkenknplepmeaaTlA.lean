/-
  WALKS: (*disk.Disk).Arm, hammerpondtop.number, lightDeeds. PLAIN: what Add comes to on a disk that may fail.
-/
import Derived.Test.YtgkenknplepmeaaLsA
namespace Go.Proofs.Ytgkenknplepmeaa
open Go.RowKit Go.Sort

set_option maxHeartbeats 400000 in
theorem arm_any (base p B : Nat) (V : Nat → Value) (D : Dk) (n : Int) (w : World) (h : DkAt w base p B V D) :
    Calls Try.prog 24 #[ptr p, .int .i64 n] w fun e w' => e = .returned (.tuple #[]) ∧ DkAt w' base p B V { D with left := n } ∧ Below base w w' ∧ Ty w w' := by
  have c1 : w.cell? ⟨p, 1, none⟩ = some (.int .i64 D.left) := h.dk.cell 1
  have f1 := h.dk.free 1
  have HD := Lib.hid (h.upd n D.down D.next h.nx (by have := h.dk.set 1 (.int .i64 n); exact this) (upd_setp (i := 1) (.int .i64 n)))
  have HT := Lib.hid (Ty.setP (i := 1) h.dk (.int .i64 n))
  have HB := Lib.hid ((Below.refl base w).setCell (p := ⟨p, 1, none⟩) (by simpa using h.hp) (.int .i64 n))
  clear h
  go_enter Try.func24, Try.ntmps24
  go_wp2
  go_end0
  exact ⟨rfl, HD.out, HB.out, HT.out⟩
set_option maxHeartbeats 400000 in
theorem numb_nil (w : World) : Calls Try.prog 56 #[.nilIface] w fun e w' => e = .returned (.int .i64 0) ∧ w = w' := by
  go_enter Try.func56, Try.ntmps56
  go_wp2
  go_ret
  exact ⟨rfl, rfl⟩
set_option maxHeartbeats 400000 in
theorem numb_err (k : Int) (w : World) : Calls Try.prog 56 #[.iface 96 (.int .i64 k)] w fun e w' => e = .returned (.int .i64 k) ∧ w = w' := by
  have ha := fun v W => assert_err v W
  go_enter Try.func56, Try.ntmps56
  go_wp2
  go_ret
  exact ⟨rfl, rfl⟩
def LitE (es : List (List Ch)) (most : Nat) : Prop := es.length ≤ most ∧ ∀ e ∈ es, LitC e 14
def LePost (es : List (List Ch)) (most : Nat) (w : World) (e : Ending) (w' : World) : Prop := ∃ b, e = .returned (.bool b) ∧ (b = true → LitE es most) ∧ w = w'
def LeRel (w : World) (es : List (List Ch)) (i : Value) (wr : World) : Prop := ∃ k : Nat, k ≤ es.length ∧ i = .int .i64 k ∧ wr = w ∧ ∀ (j : Nat) (f : List Ch), j < k → es[j]? = some f → LitC f 14
set_option maxHeartbeats 1000000 in
set_option maxRecDepth 100000 in
theorem lightE_any (A : Option Addr) (n c : Nat) (es : List (List Ch)) (most B : Nat) (w : World) (h : RdE w B A n c es) (hmost : most ≤ 1000) :
    Calls Try.prog 55 #[.slice A n c, .int .i64 most] w (LePost es most w) := by
  have HR := Lib.hid h
  have HL := Lib.hid h.1
  have hc1 := h.2.1
  have hc2 := h.2.2.1
  unfold maxLen at hc2
  clear h
  by_cases hm : most < n
  · have zm : (most : Int) < (n : Int) := by omega
    go_enter Try.func55, Try.ntmps55
    go_wp2
    go_ret
    exact ⟨false, rfl, by simp, rfl⟩
  have zm : decide ((most : Int) < (n : Int)) = false := decide_eq_false (by omega)
  go_enter Try.func55, Try.ntmps55
  go_wp2
  go_loopw [5] (fun i wr => LeRel w es i wr) (fun i _ => n - (intOf i).toNat)
  case atStart => exact ⟨0, Nat.zero_le _, rfl, rfl, fun j g h => absurd h (Nat.not_lt_zero j)⟩
  case round =>
    obtain ⟨k, hk, rfl, rfl, hno⟩ := hrel
    have hkn : k ≤ n := by rw [← HL.out]; exact hk
    have HN := Lib.hid hno
    clear hk hno
    by_cases hlt : k < n
    · obtain ⟨f, hf⟩ : ∃ f, es[k]? = some f := ⟨_, List.getElem?_eq_getElem (by rw [HL.out]; exact hlt)⟩
      obtain ⟨b', off, rfl, _, A', n', c', y0, hr⟩ := HR.out.at_ hf
      have hkz : (k : Int) < (n : Int) := by omega
      have HF := Lib.hid hf
      have HLC := Lib.hid (lightChanges_any A' n' c' f 14 B wr hr (by omega))
      rw [show ((14 : Nat) : Int) = 14 from rfl] at HLC
      unfold LcPost at HLC
      clear hf hr
      go_wp2_with fail
      refine HLC.out.mono ?_
      rintro e w2 ⟨b, rfl, hb, rfl⟩
      cases b with
      | false =>
        clear hb
        go_wp2
        go_ret
        exact ⟨false, rfl, by simp, rfl⟩
      | true =>
        have HLI := Lib.hid (hb rfl)
        clear hb
        go_wp2
        go_roundw
        case rel => exact ⟨k + 1, by rw [HL.out]; omega, by go_num, rfl, idx_step HF.out HN.out HLI.out⟩
        case measure => simp [intOf]; omega
    · obtain rfl : k = n := by omega
      go_wp2
      go_ret
      exact ⟨true, rfl, fun _ => ⟨by rw [HL.out]; omega, all_of_idx (fun j f hj hf => HN.out j f (by rw [← HL.out]; exact hj) hf)⟩, rfl⟩
theorem WFail.len {D D' : Dk} {n : Nat} {ss : List ByteArray} (h : WFail D n ss D') (i : Nat) : (D'.sec i).ws.length ≤ (D.sec i).ws.length + 1 := by
  by_cases hi : i < n ∨ n + ss.length ≤ i
  · rw [h.out i hi]; omega
  · have hj : i - n < ss.length := by omega
    have e : n + (i - n) = i := by omega
    rcases h.in_ (i - n) ss[i - n] (List.getElem?_eq_getElem hj) with h1 | ⟨b, h1⟩
    · rw [e] at h1; rw [h1]; omega
    · rw [e] at h1; rw [h1]; simp
theorem weR_ws (D : Dk) (a : Nat) (rs : List ByteArray) (s0 : ByteArray) (hn : a + 1 + rs.length ≤ D.n) (hs : ∀ s ∈ rs, s.size ≤ 340) (h0 : s0.size ≤ 340) (hr : rs.length < 64) (hw : WOk D 1) (hfl : ∀ i, i < D.n → (D.sec i).ws = []) :
    ∀ i, i < D.n → ((weR D a rs s0).1.sec i).ws.length ≤ 1 := fun i hi => by
  have hbl : ∀ s ∈ [blB], s.size ≤ 340 := one_small (by show 0 ≤ 340; omega)
  unfold weR
  split
  · rcases wrL_spec [blB] D a (by show a + 1 ≤ D.n; omega) hbl hw with ⟨_, d1⟩ | ⟨_, f1⟩
    · rw [show (we1 D a).1 = (wrL D a [blB]).1 from rfl, d1.ws i]; simp
    · have := f1.len i
      rw [hfl i hi] at this
      exact this
  · rename_i e1
    have d1 : WDone D a [blB] (we1 D a).1 := by
      rcases wrL_spec [blB] D a (by show a + 1 ≤ D.n; omega) hbl hw with ⟨_, d1⟩ | ⟨e, _⟩
      · exact d1
      · exact absurd (show (we1 D a).2 ≠ 0 by rw [show (we1 D a).2 = 11 from e]; simp) e1
    split
    · rcases wrL_spec rs (we1 D a).1 (a + 1) (by rw [d1.n_]; exact hn) hs (wok_done d1 hr) with ⟨_, d2⟩ | ⟨_, f2⟩
      · rw [show (we2 D a rs).1 = (wrL (we1 D a).1 (a + 1) rs).1 from rfl, d2.ws i]; simp
      · have := f2.len i
        rw [d1.ws i] at this
        exact this
    · rename_i e2
      have d2 : WDone (we1 D a).1 (a + 1) rs (we2 D a rs).1 := by
        rcases wrL_spec rs (we1 D a).1 (a + 1) (by rw [d1.n_]; exact hn) hs (wok_done d1 hr) with ⟨_, d2⟩ | ⟨e, _⟩
        · exact d2
        · exact absurd (show (we2 D a rs).2 ≠ 0 by rw [show (we2 D a rs).2 = 11 from e]; simp) e2
      rcases wrL_spec [s0] (we2 D a rs).1 a (by rw [d2.n_, d1.n_]; show a + 1 ≤ D.n; omega) (one_small h0) (wok_done d2 (by show 1 < 64; omega)) with ⟨_, d3⟩ | ⟨_, f3⟩
      · rw [show (we3 D a rs s0).1 = (wrL (we2 D a rs).1 a [s0]).1 from rfl, d3.ws i]; simp
      · have := f3.len i
        rw [d2.ws i] at this
        exact this
/-- The disk stands still: nothing waits. -/
structure Flat (D : Dk) : Prop where
  ws : ∀ i, i < D.n → (D.sec i).ws = []
  wok : ∀ k, k < 64 → WOk D k
theorem stand_crash {D D' : Dk} {fr mn fi u : Nat} {l : List Ch} {keep : Nat} (hl : ∀ j, j < fr + u → stay keep D' j = nowB (D.sec j)) (h0 : stay keep D' (fr + u) = padB (s0R (fi + u) l)) (hr : ∀ j s, (rsR (mn - u) (entR (fi + u) l))[j]? = some s → stay keep D' (fr + u + 1 + j) = padB s) :
    Stand (fun i => stay keep D' (fr + i)) (nowF D fr) u mn (entR (fi + u) l) := by
  refine ⟨fun j hj => hl _ (by omega), fun s hs => ?_, fun j s hj => ?_⟩
  · rw [s0R_at] at hs
    injection hs with hs
    rw [← hs]; exact h0
  · show stay keep D' (fr + (u + 1 + j)) = padB s
    rw [show fr + (u + 1 + j) = fr + u + 1 + j by omega]
    exact hr j s hj
/-- Add on a disk that may fail. -/
theorem LaR.any {D D' : Dk} {fr mn fi u u' : Nat} {l : List Ch} {er : Int} {es : List (List Ch)} (h : LaR D fr mn fi u l er D' u') (hfl : Flat D) (hf : fr + mn ≤ D.n) (hrd : rdR (nowF D fr) fi mn 0 [] [] 0 = (es, u)) :
    (0 < er ∧ er ≠ 11 ∧ D' = D ∧ u' = u) ∨
    (er = 11 ∧ D'.n = D.n ∧ (∀ i, i < D.n → (D'.sec i).ws.length ≤ 1) ∧ ∀ keep, ∃ u'', rdR (fun i => stay keep D' (fr + i)) fi mn 0 [] [] 0 = (es, u'') ∨ rdR (fun i => stay keep D' (fr + i)) fi mn 0 [] [] 0 = (es ++ [l], u'')) ∨
    (er = 0 ∧ u' = u + l.length + 1 ∧ D'.n = D.n ∧ Flat D' ∧ rdR (nowF D' fr) fi mn 0 [] [] 0 = (es ++ [l], u + l.length + 1)) := by
  have hwe : l.length ≤ 40 → u + l.length + 1 ≤ mn → (∀ c ∈ l, ckR c = 0) → (((weL D fr mn fi u l).2 = 0 ∧ EDone D (fr + u) (rsR (mn - u) (entR (fi + u) l)) (s0R (fi + u) l) (weL D fr mn fi u l).1) ∨ ((weL D fr mn fi u l).2 = 11 ∧ ECr D (fr + u) (rsR (mn - u) (entR (fi + u) l)) (s0R (fi + u) l) (weL D fr mn fi u l).1)) ∧ ∀ i, i < D.n → ((weL D fr mn fi u l).1.sec i).ws.length ≤ 1 := fun h1 h2 h3 => by
    have hlen := entR_len (fi + u) l
    have hrs := rsR_len (room := mn - u) (ss := entR (fi + u) l) (by omega) (by omega)
    have a1 : fr + u + 1 + (rsR (mn - u) (entR (fi + u) l)).length ≤ D.n := by omega
    have a2 := rsR_small (room := mn - u) (entR_small (n := fi + u) h3)
    have a3 := entR_small (n := fi + u) h3 _ (List.mem_of_getElem? (s0R_at (fi + u) l))
    refine ⟨?_, weR_ws D (fr + u) (rsR (mn - u) (entR (fi + u) l)) (s0R (fi + u) l) a1 a2 a3 (by omega) (hfl.wok 1 (by omega)) hfl.ws⟩
    rcases weR_spec D (fr + u) (rsR (mn - u) (entR (fi + u) l)) (s0R (fi + u) l) a1 a2 a3 (by omega) (hfl.wok 1 (by omega)) with h | ⟨h, hc⟩
    · exact .inl h
    · exact .inr ⟨h, hc hfl.ws⟩
  cases h with
  | many h1 => exact .inl ⟨by omega, by omega, rfl, rfl⟩
  | full h1 h2 => exact .inl ⟨by omega, by omega, rfl, rfl⟩
  | bad k c h1 h2 h3 h4 h5 => exact .inl ⟨by rcases ckR_cases c with h | h | h <;> omega, by rcases ckR_cases c with h | h | h <;> omega, rfl, rfl⟩
  | down h1 h2 h3 h4 =>
    obtain ⟨hh, hws⟩ := hwe h1 h2 h3
    rcases hh with ⟨e, _⟩ | ⟨_, hcr⟩
    · rw [e] at h4; cases h4
    · refine .inr (.inl ⟨rfl, hcr.1, hws, fun keep => ?_⟩)
      rcases hcr.2 keep with hall | ⟨hlow, hb | ⟨h0, hr⟩⟩
      · refine ⟨u, .inl ?_⟩
        rw [← hrd]
        exact rdR_congr _ _ _ _ _ fun j _ hj => hall _ (by omega)
      · refine ⟨u, .inl (read_blank hrd (fun j hj => hlow _ (by omega)) ?_)⟩
        exact hb
      · refine ⟨_, .inr (read_added hrd h3 (by omega) (stand_crash (fun j hj => hlow j hj) h0 hr))⟩
  | ok h1 h2 h3 h4 =>
    obtain ⟨hh, _⟩ := hwe h1 h2 h3
    rcases hh with ⟨_, hed⟩ | ⟨e, _⟩
    · exact .inr (.inr ⟨rfl, rfl, hed.n_, ⟨fun i _ => hed.ws i, fun k hk => wok_e hed hk⟩, read_added hrd h3 (by omega) (stand_done hed hf (by omega))⟩)
    · rw [e] at h4; cases h4
theorem flat_restart (keep : Nat) (D : Dk) : Flat (restartR keep D) := ⟨fun _ _ => rfl, fun k hk => ⟨by show -9223372036854775808 ≤ (-1 : Int) ∧ (-1 : Int) ≤ 9223372036854775807; omega, by show 0 + k < 64; omega, fun i _ x hx => (by cases hx), fun i _ => Nat.zero_le _⟩⟩
theorem now_restartF (keep : Nat) (D : Dk) (fr : Nat) : nowF (restartR keep D) fr = fun i => stay keep D (fr + i) := rfl
theorem flat_arm {D : Dk} (n : Nat) (h : D = newD n) (left : Int) (hl : -1 ≤ left ∧ left ≤ 200) : Flat { D with left := left } := by
  subst h
  exact ⟨fun _ _ => rfl, fun k hk => ⟨by show -9223372036854775808 ≤ left ∧ left ≤ 9223372036854775807; omega, by show 0 + k < 64; omega, fun i _ x hx => (by cases hx), fun i _ => Nat.zero_le _⟩⟩
end Go.Proofs.Ytgkenknplepmeaa
