/-
  PLAIN: what a store's disk holds; what formatting, a checkpoint and an entry make of it, on a disk that is neither armed nor down.
-/
import Derived.Test.YtgkenknplepmeaaWpE
import Derived.Test.YtgkenknplepmeaaRrB
import Derived.Test.YtgkenknplepmeaaTlA
import Derived.Test.YtgkenknplepmeaaSrE
namespace Go.Proofs.Ytgkenknplepmeaa
open Go.RowKit Go.Sort

/-- Whatever block is none of a disk's, a log's or a store's stands. -/
def Tq (w w' : World) : Prop := ∀ g t cs, Blk w g t cs → t ≠ tDk → t ≠ tSe → t ≠ tWt → t ≠ tLog → t ≠ tSo → Blk w' g t cs
theorem Tq.refl (w : World) : Tq w w := fun _ _ _ h _ _ _ _ _ => h
theorem Tq.trans {a b c : World} (h : Tq a b) (k : Tq b c) : Tq a c := fun g t cs hb h1 h2 h3 h4 h5 => k g t cs (h g t cs hb h1 h2 h3 h4 h5) h1 h2 h3 h4 h5
theorem Tq.of_ty {w w' : World} (h : Ty w w') : Tq w w' := fun g t cs hb h1 h2 h3 _ _ => h g t cs hb h1 h2 h3
theorem Tq.of_below {w w' : World} (h : Below w.heap.size w w') : Tq w w' := Tq.of_ty (Ty.of_below h)
theorem Tq.of_tyx {w w' : World} {pl : Nat} {cs0 : Array Value} (h : TyX w w' pl) (hl : Blk w pl tLog cs0) : Tq w w' := fun g t cs hb h1 h2 h3 h4 _ => h g t cs hb h1 h2 h3 (hb.ne hl h4)
theorem Tq.setNew {w W : World} (h : Tq w W) {b i : Nat} (hb : w.heap.size ≤ b) (v : Value) : Tq w (W.setCell ⟨b, i, none⟩ v) := fun g t cs hg h1 h2 h3 h4 h5 => (h g t cs hg h1 h2 h3 h4 h5).other (fun e => by have := hg.lt; omega) v
theorem Tq.setSo {w W : World} (h : Tq w W) {ps i : Nat} {cs0 : Array Value} (hp : Blk W ps tSo cs0) (v : Value) : Tq w (W.setCell ⟨ps, i, none⟩ v) := fun g t cs hg h1 h2 h3 h4 h5 => (h g t cs hg h1 h2 h3 h4 h5).other (fun e => by subst e; exact (h _ t cs hg h1 h2 h3 h4 h5).ne hp h5 rfl) v
theorem row_file {c : Ch} (h : ckR c = 0) : (rowR c).size ≤ if keyB pF c.key then 34 else 314 := by
  have hs : (rowR c).size = 2 + (encR c).size := by unfold rowR; rw [ByteArray.size_append, numR_size]
  have h1 := ckR_key h
  have h2 := ckR_val h
  rw [hs, encR_size]
  split
  · rename_i hf
    unfold ckR at h
    split at h
    · split at h
      · cases h
      · rename_i hc
        simp [hf] at hc
        omega
    · cases h
  · omega
theorem rows_sum {l : List Ch} (h : ∀ c ∈ l, ckR c = 0) : (rowsR l).size ≤ fileN l * 34 + (l.length - fileN l) * 314 := by
  induction l with
  | nil => show 0 ≤ _; omega
  | cons c r ih =>
    have h1 := ih fun x hx => h x (by simp [hx])
    have h2 := row_file (h c (by simp))
    have h3 := fileN_le r
    have e : (rowsR (c :: r)).size = (rowR c).size + (rowsR r).size := by
      show (rowR c ++ rowsR r).size = _
      rw [ByteArray.size_append]
    rw [e]
    by_cases hf : keyB pF c.key
    · have e2 : fileN (c :: r) = fileN r + 1 := by unfold fileN; rw [List.filter_cons, if_pos hf]; rfl
      rw [if_pos hf] at h2
      rw [e2, List.length_cons]
      have : r.length + 1 - (fileN r + 1) = r.length - fileN r := by omega
      rw [this]
      omega
    · have e2 : fileN (c :: r) = fileN r := by unfold fileN; rw [List.filter_cons, if_neg hf]
      rw [if_neg hf] at h2
      rw [e2, List.length_cons]
      have : r.length + 1 - fileN r = (r.length - fileN r) + 1 := by omega
      rw [this, Nat.succ_mul]
      omega
theorem rows_few {l : List Ch} (h : ∀ c ∈ l, ckR c = 0) (ht : tmB l = false) : (rowsR l).size ≤ 7140 ∧ l.length ≤ 40 := by
  unfold tmB at ht
  rw [Bool.or_eq_false_iff, decide_eq_false_iff_not, decide_eq_false_iff_not] at ht
  have h1 := rows_sum h
  have h2 := fileN_le l
  omega
/-- What a store's disk holds: the area of the last checkpoint, the number of the log's first sector, its end; the rows of the checkpoint, the entries behind it. -/
structure SGood (D : Dk) (a fi u : Nat) (rows0 : List Ch) (es : List (List Ch)) : Prop where
  n1 : 50 ≤ D.n
  n2 : D.n ≤ 120
  good : Good D
  flat : Flat D
  a1 : a ≤ 1
  f1 : 1 ≤ fi
  head : nowB (D.sec 0) = padB (hdR a (rowsR rows0).size fi)
  area : AreaOf (fun i => nowB (D.sec (1 + a * 21 + i))) (rowsR rows0)
  log : rdR (nowF D 44) fi (D.n - 44) 0 [] [] 0 = (es, u)
  ok0 : RowsOk rows0
  few0 : tmB rows0 = false
  few : ∀ e ∈ es, e.length ≤ 40
theorem SGood.ule {D : Dk} {a fi u : Nat} {rows0 : List Ch} {es : List (List Ch)} (h : SGood D a fi u rows0 es) : u ≤ D.n - 44 := (rdR_end (nowF D 44) (nowF D 44) fi (D.n - 44) h.log (fun _ _ => rfl)).1
theorem flat_done {D D' : Dk} {n : Nat} {ss : List ByteArray} (h : WDone D n ss D') : Flat D' := ⟨fun i _ => h.ws i, fun k hk => wok_done h hk⟩
theorem now_out {D D' : Dk} {n : Nat} {ss : List ByteArray} (h : WDone D n ss D') {i : Nat} (hi : i < D.n) (ho : i < n ∨ n + ss.length ≤ i) : nowB (D'.sec i) = nowB (D.sec i) := by rw [now_flat (h.ws i), h.out i hi ho]
theorem now_in {D D' : Dk} {n : Nat} {ss : List ByteArray} (h : WDone D n ss D') {j : Nat} {s : ByteArray} (hj : ss[j]? = some s) : nowB (D'.sec (n + j)) = padB s := by rw [now_flat (h.ws _), h.in_ j s hj]
theorem wr_good {D : Dk} {n : Nat} {ss : List ByteArray} (hn : n + ss.length ≤ D.n) (hs : ∀ s ∈ ss, s.size ≤ 340) (hw : WOk D ss.length) (hg : Good D) : (wrL D n ss).2 = 0 ∧ WDone D n ss (wrL D n ss).1 ∧ Good (wrL D n ss).1 := by
  obtain ⟨h1, h2⟩ := good_wrL ss D n hn hs hg
  refine ⟨h1, ?_, h2⟩
  rcases wrL_spec ss D n hn hs hw with ⟨_, h⟩ | ⟨h, _⟩
  · exact h
  · rw [h1] at h; cases h
theorem one_hd {a z f : Nat} : ∀ s ∈ [hdR a z f], s.size ≤ 340 := fun s hs => by
  rw [List.mem_singleton] at hs; subst hs; rw [hdR_size]; omega
theorem nowF_head {D D' : Dk} {s : ByteArray} (h : WDone D 0 [s] D') (hn : 50 ≤ D.n) (fi : Nat) : rdR (nowF D' 44) fi (D'.n - 44) 0 [] [] 0 = rdR (nowF D 44) fi (D.n - 44) 0 [] [] 0 := by
  rw [h.n_]
  exact rdR_congr _ _ _ _ _ fun j _ hj => now_out h (by omega) (.inr (by show 0 + 1 ≤ _; omega))
theorem area_nil (f : Nat → ByteArray) : AreaOf f (rowsR []) := fun i hi => by
  have : (rowsR []).size = 0 := rfl
  rw [this] at hi
  omega
theorem rows_nil : RowsOk [] := ⟨fun _ h => (by cases h), fun _ h => (by cases h), List.Pairwise.nil⟩
/-- Formatting. -/
theorem sgood_format {D1 : Dk} {fi : Nat} (hn1 : 50 ≤ D1.n) (hn2 : D1.n ≤ 120) (hg : Good D1) (hf : Flat D1) (hfi : 1 ≤ fi) (hlog : rdR (nowF D1 44) fi (D1.n - 44) 0 [] [] 0 = ([], 0)) : (wrL D1 0 [hdR 0 0 fi]).2 = 0 ∧ SGood (wrL D1 0 [hdR 0 0 fi]).1 0 fi 0 [] [] ∧ (wrL D1 0 [hdR 0 0 fi]).1.n = D1.n := by
  obtain ⟨h1, h2, h3⟩ := wr_good (D := D1) (n := 0) (ss := [hdR 0 0 fi]) (by show 0 + 1 ≤ _; omega) one_hd (hf.wok 1 (by omega)) hg
  refine ⟨h1, ⟨by rw [h2.n_]; exact hn1, by rw [h2.n_]; exact hn2, h3, flat_done h2, by omega, hfi, ?_, area_nil _, ?_, rows_nil, rfl, fun _ h => (by cases h)⟩, h2.n_⟩
  · have := now_in h2 (j := 0) (s := hdR 0 0 fi) rfl
    exact this
  · rw [nowF_head h2 hn1, hlog]
/-- A checkpoint: the other area is written. -/
theorem save_area {D : Dk} {a fi u : Nat} {rows0 rows : List Ch} {es : List (List Ch)} (h : SGood D a fi u rows0 es) {b : Nat} (hb : b ≤ 1) (hok : RowsOk rows) (hfew : tmB rows = false) :
    (wrL D (1 + b * 21) (chunksR (rowsR rows))).2 = 0 ∧ WDone D (1 + b * 21) (chunksR (rowsR rows)) (wrL D (1 + b * 21) (chunksR (rowsR rows))).1 ∧ Good (wrL D (1 + b * 21) (chunksR (rowsR rows))).1 ∧ (chunksR (rowsR rows)).length ≤ 21 := by
  have hS := (rows_few hok.ck hfew).1
  have hl : (chunksR (rowsR rows)).length ≤ 21 := by rw [chunksR_len]; omega
  have hn := h.n1
  obtain ⟨h1, h2, h3⟩ := wr_good (D := D) (n := 1 + b * 21) (ss := chunksR (rowsR rows)) (by omega) (chunksR_small _) (h.flat.wok _ (by omega)) h.good
  exact ⟨h1, h2, h3, hl⟩
theorem area_done {D D1 D2 : Dk} {b : Nat} {S s : ByteArray} (h1 : WDone D (1 + b * 21) (chunksR S) D1) (h2 : WDone D1 0 [s] D2) (hb : b ≤ 1) (hl : (chunksR S).length ≤ 21) (hn : 50 ≤ D.n) : AreaOf (fun i => nowB (D2.sec (1 + b * 21 + i))) S := fun i hi => by
  have hi2 := hi
  rw [← chunksR_len] at hi2
  show nowB (D2.sec (1 + b * 21 + i)) = _
  rw [now_out h2 (by rw [h1.n_]; omega) (.inr (by show 0 + 1 ≤ _; omega)), now_in h1 (chunksR_at S hi)]
theorem sgood_save {D : Dk} {a fi u : Nat} {rows0 rows : List Ch} {es : List (List Ch)} (h : SGood D a fi u rows0 es) {b f2 : Nat} (hb : b ≤ 1) (hok : RowsOk rows) (hfew : tmB rows = false) (hf2 : 1 ≤ f2)
    (hlog : rdR (nowF (wrL D (1 + b * 21) (chunksR (rowsR rows))).1 44) f2 ((wrL D (1 + b * 21) (chunksR (rowsR rows))).1.n - 44) 0 [] [] 0 = ([], 0)) :
    (wrL (wrL D (1 + b * 21) (chunksR (rowsR rows))).1 0 [hdR b (rowsR rows).size f2]).2 = 0 ∧ SGood (wrL (wrL D (1 + b * 21) (chunksR (rowsR rows))).1 0 [hdR b (rowsR rows).size f2]).1 b f2 0 rows [] ∧ (wrL (wrL D (1 + b * 21) (chunksR (rowsR rows))).1 0 [hdR b (rowsR rows).size f2]).1.n = D.n := by
  obtain ⟨_, h1, hg1, hl⟩ := save_area h hb hok hfew
  generalize (wrL D (1 + b * 21) (chunksR (rowsR rows))).1 = D1 at *
  have hn1 : 50 ≤ D1.n := by rw [h1.n_]; exact h.n1
  obtain ⟨e2, h2, h3⟩ := wr_good (D := D1) (n := 0) (ss := [hdR b (rowsR rows).size f2]) (by show 0 + 1 ≤ _; omega) one_hd (wok_done h1 (by show 1 < 64; omega)) hg1
  refine ⟨e2, ⟨by rw [h2.n_]; exact hn1, by rw [h2.n_, h1.n_]; exact h.n2, h3, flat_done h2, hb, hf2, ?_, area_done h1 h2 hb hl h.n1, ?_, hok, hfew, fun _ h => (by cases h)⟩, by rw [h2.n_, h1.n_]⟩
  · have := now_in h2 (j := 0) (s := hdR b (rowsR rows).size f2) rfl
    exact this
  · rw [nowF_head h2 hn1, hlog]
/-- An entry is added. -/
theorem LaR.low {D D' : Dk} {fr mn fi u u' : Nat} {l : List Ch} {er : Int} (h : LaR D fr mn fi u l er D' u') (hw : WOk D 1) (hg : Good D) (hf : fr + mn ≤ D.n) (hfl : Flat D) : Flat D' ∧ ∀ i, i < fr → nowB (D'.sec i) = nowB (D.sec i) := by
  cases h with
  | many h1 => exact ⟨hfl, fun _ _ => rfl⟩
  | full h1 h2 => exact ⟨hfl, fun _ _ => rfl⟩
  | bad k c h1 h2 h3 h4 h5 => exact ⟨hfl, fun _ _ => rfl⟩
  | down h1 h2 h3 h4 =>
    exfalso
    have hlen := entR_len (fi + u) l
    have hrs := rsR_len (room := mn - u) (ss := entR (fi + u) l) (by omega) (by omega)
    have := (good_weR D (fr + u) (rsR (mn - u) (entR (fi + u) l)) (s0R (fi + u) l) (by omega) (rsR_small (room := mn - u) (entR_small (n := fi + u) h3)) (entR_small (n := fi + u) h3 _ (List.mem_of_getElem? (s0R_at (fi + u) l))) (by omega) hw hg).1
    unfold weL at h4
    rw [this] at h4
    cases h4
  | ok h1 h2 h3 h4 =>
    have hlen := entR_len (fi + u) l
    have hrs := rsR_len (room := mn - u) (ss := entR (fi + u) l) (by omega) (by omega)
    have hs := weR_spec D (fr + u) (rsR (mn - u) (entR (fi + u) l)) (s0R (fi + u) l) (by omega) (rsR_small (room := mn - u) (entR_small (n := fi + u) h3)) (entR_small (n := fi + u) h3 _ (List.mem_of_getElem? (s0R_at (fi + u) l))) (by omega) hw
    unfold weL at h4 ⊢
    rcases hs with ⟨_, hed⟩ | ⟨e, _⟩
    · exact ⟨⟨fun i _ => hed.ws i, fun k hk => wok_e hed hk⟩, fun i hi => by rw [now_flat (hed.ws i), hed.out i (by omega) (.inl (by omega))]⟩
    · rw [e] at h4; cases h4
theorem sgood_add {D D' : Dk} {a fi u u' : Nat} {rows0 : List Ch} {es : List (List Ch)} {l : List Ch} {er : Int} (h : SGood D a fi u rows0 es) (hl : LaR D 44 (D.n - 44) fi u l er D' u') (h0 : NoFv (D.n - 44) u l) : er = 0 ∧ u' = u + l.length + 1 ∧ D'.n = D.n ∧ SGood D' a fi u' rows0 (es ++ [l]) := by
  have hn := h.n1
  have h44 : 44 + (D.n - 44) ≤ D.n := by omega
  obtain ⟨hfl, hlow⟩ := hl.low (h.flat.wok 1 (by omega)) h.good h44 h.flat
  rcases hl.good h.good (h.flat.wok 1 (by omega)) h44 h.log with ⟨hf, _, _⟩ | ⟨rfl, _, rfl, hg, _, hnn, hrd⟩
  · exact absurd h0 hf.not
  · refine ⟨rfl, rfl, hnn, ⟨by rw [hnn]; exact h.n1, by rw [hnn]; exact h.n2, hg, hfl, h.a1, h.f1, ?_, fun i hi => ?_, by rw [hnn]; exact hrd, h.ok0, h.few0, fun e he => ?_⟩⟩
    · rw [hlow 0 (by omega)]; exact h.head
    · have hS := (rows_few h.ok0.ck h.few0).1
      have ha := h.a1
      show nowB (D'.sec _) = _
      rw [hlow _ (by omega)]
      exact h.area i hi
    · rcases List.mem_append.1 he with h1 | h1
      · exact h.few e h1
      · rw [List.mem_singleton] at h1; subst h1; exact h0.1
/-! Rows that are applied. -/
theorem RowsOk.apply {l : List Ch} (h : RowsOk l) : ApplyOf l l := by
  refine ⟨h.rise, fun k => ?_⟩
  have hp : (l.filter (keyIs k)).Pairwise fun a b => lt a.key b.key = true := h.rise.filter _
  have hk : ∀ c ∈ l.filter (keyIs k), c.key = k ∧ c.gone = false := fun c hc => by
    have := List.mem_filter.1 hc
    exact ⟨by simpa [keyIs] using this.2, h.stay c this.1⟩
  generalize l.filter (keyIs k) = f at *
  match f, hp, hk with
  | [], _, _ => rfl
  | [c], _, hk => simp [ends, (hk c (by simp)).2]
  | c :: d :: r, hp, hk =>
    have h1 := (List.pairwise_cons.1 hp).1 d (by simp)
    rw [(hk c (by simp)).1, (hk d (by simp)).1, lt_irrefl] at h1
    cases h1
theorem ApplyOf.in_ {l out : List Ch} (h : ApplyOf l out) {c : Ch} (hc : c ∈ out) : c ∈ l ∧ c.gone = false := by
  have := (h.mem c).1 hc
  unfold Go.Proofs.Ytgkenknplepmeaa.ends at this
  split at this
  · rename_i d hd
    have hm := List.mem_of_getLast? hd
    split at this
    · cases this
    · rename_i hg
      rw [List.mem_singleton] at this
      subst this
      exact ⟨(List.mem_filter.1 hm).1, by simpa using hg⟩
  · cases this
theorem ApplyOf.ok {l out : List Ch} (h : ApplyOf l out) (hl : ∀ c ∈ l, ckR c = 0) : RowsOk out := ⟨fun c hc => hl c (h.in_ hc).1, fun c hc => (h.in_ hc).2, h.rises⟩
end Go.Proofs.Ytgkenknplepmeaa
