/-
  WORDS AND WALKS for slices of strings: a slice that reads as a list of texts; hammerpondref.In, slices.Index, slices.Contains, slices.Clone, hammerpondlaw.LightTexts: what each gives, for lists of at most a million texts.
-/
import Derived.Test.YtlkpbpecgdphaaaLight
import Derived.Lib.AppendZeros
namespace Go.Proofs.Ytlkpbpecgdphaaa
open Go.RowKit

theorem file_info : (Try.prog.info? 57).map (fun i => (i.zero, i.size, i.bytes)) = some (some (.agg #[.string ByteArray.empty, .string ByteArray.empty]), 2, 32) := by kernel_rfl
theorem file_parts : ∃ i, Try.prog.info? 57 = some i ∧ i.zero = some (.agg #[.string ByteArray.empty, .string ByteArray.empty]) ∧ i.size = 2 ∧ i.bytes = 32 := by
  have h := file_info
  cases e : Try.prog.info? 57 with
  | none => rw [e] at h; cases h
  | some i =>
    rw [e] at h
    simp only [Option.map_some, Option.some.injEq, Prod.mk.injEq] at h
    exact ⟨i, rfl, h.1, h.2.1, h.2.2⟩

set_option maxHeartbeats 1000000 in
set_option maxRecDepth 100000 in
/-- slices.Grow(nil, n): an empty row of the call's own. -/
theorem grow_any (n : Nat) (w : World) (hn : n ≤ 1000000) :
    Calls Try.prog 74 #[.slice none 0 0, .int .i64 n] w fun e w' => ∃ v, e = .returned v ∧ w'.ownsRow w.heap.size 57 2 v 0 [] ∧ Below w.heap.size w w' := by
  obtain ⟨i, hi, hz, hsz, hby⟩ := file_parts
  by_cases h0 : n = 0
  · subst h0
    go_enter Try.func74, Try.ntmps74
    go_wp2
    go_ret
    exact ⟨_, rfl, World.ownsRow_nil _ _ _ _, Below.refl _ _⟩
  · have hr := Lib.run_append_nil_zeros (P := Try.prog) w 22 3 22 57 i _ .i64 .i64 Try.underlying22 Try.underlying3 hi hz n (by omega) (by omega) (by omega) (by rw [hby]; omega)
    have hge := grownCap_ge w n 0 57
    have hcm : grownCap w n 0 57 ≤ maxLen := grownCap_le_maxLen w n 0 57 (by unfold maxLen; omega)
    have hpos : 0 < n := by omega
    have HR := Lib.hid hr
    have HM := Lib.hid hcm
    have HZ := Lib.hid hz
    have hsize : (Builtin.zeroCells (Value.agg #[.string ByteArray.empty, .string ByteArray.empty]).cells n ++ Builtin.zeroCells (Value.agg #[.string ByteArray.empty, .string ByteArray.empty]).cells (grownCap w n 0 57 - n)).size = grownCap w n 0 57 * 2 := by
      have e2 : (Value.agg #[.string ByteArray.empty, .string ByteArray.empty]).cells.size = 2 := rfl
      rw [Array.size_append, size_zeroCells, size_zeroCells, e2]; omega
    have HS := Lib.hid hsize
    clear hr hcm hz hsz hby hi h0 hsize
    go_enter Try.func74, Try.ntmps74
    go_wp2_with (at_builtin; refine Lib.wpList_append_run _ rfl _ _ _ _ rfl _ _ rfl rfl _ _ HR.out ?_)
    go_ret
    exact ⟨_, rfl, World.ownsRow_made w.drew _ _ (Nat.le_refl _) HM.out HS.out, ((Below.refl _ _).drew).alloc (Nat.le_refl _) _⟩

/-- What a list of slices holds, cell by cell. -/
def RdL (w : World) (B g off : Nat) (L : List (Option Addr × Nat × Nat × List F)) : Prop :=
  ∀ j s, L[j]? = some s → w.cell? ⟨g, off + j, none⟩ = some (.slice s.1 s.2.1 s.2.2.1) ∧ RdF w B s.1 s.2.1 s.2.2.1 s.2.2.2
def allF (L : List (Option Addr × Nat × Nat × List F)) : List F := L.flatMap fun s => s.2.2.2
theorem RdL.keep {w w' : World} {B g off : Nat} {L : List (Option Addr × Nat × Nat × List F)} (h : RdL w B g off L) (hg : g < B) (hb : Below B w w') : RdL w' B g off L :=
  fun j s hs => ⟨(hb.cell (p := ⟨g, off + j, none⟩) hg).trans (h j s hs).1, (h j s hs).2.below hb⟩
theorem allF_snoc (L : List (Option Addr × Nat × Nat × List F)) (k : Nat) {s : Option Addr × Nat × Nat × List F} (h : L[k]? = some s) : allF (L.take (k + 1)) = allF (L.take k) ++ s.2.2.2 := by
  have hl := (List.getElem?_eq_some_iff.1 h).1
  rw [List.take_succ_eq_append_getElem hl, allF, List.flatMap_append]
  have e : L[k] = s := (List.getElem?_eq_some_iff.1 h).2
  rw [e]; simp [allF]
theorem allF_mono (L : List (Option Addr × Nat × Nat × List F)) (k : Nat) : (allF (L.take k)).length ≤ (allF L).length := by
  conv => rhs; rw [← List.take_append_drop k L, allF, List.flatMap_append]
  rw [List.length_append]; exact Nat.le_add_right _ _

def CatRel (w : World) (n : Nat) (L : List (Option Addr × Nat × Nat × List F)) (v j : Value) (wr : World) : Prop :=
  ∃ k : Nat, k ≤ n ∧ j = .int .i64 k ∧ wr.ownsRow w.heap.size 57 2 v (allF (L.take k)).length (fcells (allF (L.take k))) ∧ Below w.heap.size w wr

set_option maxHeartbeats 2000000 in
set_option maxRecDepth 100000 in
/-- slices.Concat: all the slices' files, in a row of the call's own. -/
theorem concat_any (g off c : Nat) (L : List (Option Addr × Nat × Nat × List F)) (w : World) (hg : g < w.heap.size) (h : RdL w w.heap.size g off L) (hL : L.length ≤ 1000) (hA : (allF L).length ≤ 1000000) :
    Calls Try.prog 63 #[.slice (some ⟨g, off, none⟩) L.length c] w fun e w' => ∃ v, e = .returned v ∧ w'.ownsRow w.heap.size 57 2 v (allF L).length (fcells (allF L)) ∧ Below w.heap.size w w' := by
  obtain ⟨i, hi, hz, hsz, hby⟩ := file_parts
  have HI := Lib.hid hi
  have HZ := Lib.hid hz
  have HS := Lib.hid hsz
  have HB := Lib.hid hby
  have HR := Lib.hid h
  clear hi hz hsz hby h
  generalize hn : L.length = n at *
  have HN := Lib.hid hn
  clear hn
  go_enter Try.func63, Try.ntmps63
  go_wp2
  go_loop [3, 11] (fun s j => ∃ k : Nat, k ≤ n ∧ j = .int .i64 k ∧ s = .int .i64 ((allF (L.take k)).length : Nat)) (fun _ j => n - (intOf j).toNat)
  case atStart => exact ⟨0, Nat.zero_le _, rfl, by simp [allF]⟩
  case round =>
    obtain ⟨k, hk, rfl, rfl⟩ := hrel
    by_cases hlt : k < n
    · obtain ⟨s, hs⟩ : ∃ s, L[k]? = some s := ⟨_, List.getElem?_eq_getElem (by rw [HN.out]; exact hlt)⟩
      obtain ⟨hc, hr⟩ := HR.out k s hs
      have hsn := allF_snoc L k hs
      have hmo := allF_mono L (k + 1)
      have hlen : (allF (L.take (k + 1))).length = (allF (L.take k)).length + s.2.1 := by rw [hsn, List.length_append, hr.1]
      have H1 := Lib.hid hlen
      rw [hlen] at hmo
      clear hsn hlen hr hs
      generalize (allF (L.take k)).length = t at *
      obtain ⟨A, m, d, l⟩ := s
      have hmo' : t + m ≤ (allF L).length := hmo
      have ht : t ≤ 1000000 := by omega
      have hm : m ≤ 1000000 := by omega
      clear hmo hmo'
      go_wp2
      go_round
      case rel => exact ⟨k + 1, by omega, by go_num, by rw [H1.out]; go_num⟩
      case measure => simp [intOf]; omega
    · obtain rfl : k = n := by omega
      have e : L.take k = L := List.take_of_length_le (by rw [HN.out]; omega)
      rw [e]
      go_wp2_with fail
      refine (grow_any _ _ hA).mono ?_
      rintro e w1 ⟨v1, rfl, hown1, hb1⟩
      have HW := Lib.hid hown1
      clear hown1
      go_wp2
      go_loopw [6, 27] (fun v j wr => CatRel w k L v j wr) (fun _ j _ => k - (intOf j).toNat)
      case atStart => exact ⟨0, Nat.zero_le _, rfl, by simpa [allF, fcells] using HW.out, hb1⟩
      case round =>
        obtain ⟨q, hq, rfl, hown, hb⟩ := hrel
        have HO := Lib.hid hown
        clear hown HW
        by_cases hlt2 : q < k
        · obtain ⟨s, hs⟩ : ∃ s, L[q]? = some s := ⟨_, List.getElem?_eq_getElem (by rw [HN.out]; exact hlt2)⟩
          obtain ⟨hc, hr⟩ := (HR.out.keep hg hb) q s hs
          have hsn := allF_snoc L q hs
          have hmo := allF_mono L (q + 1)
          rw [hsn, List.length_append, hr.1] at hmo
          have H1 := Lib.hid hsn
          have H2 := Lib.hid hr
          clear hsn hr hs
          obtain ⟨A, m, d, l⟩ := s
          have hmo' : (allF (L.take q)).length + m ≤ (allF L).length := hmo
          clear hmo
          go_wp2_with (at_builtin; refine wpList_append_files _ rfl (.tmp 31) (.tmp 32) _ rfl w.heap.size 57 i _ 32 Try.underlying22 HI.out HZ.out HS.out HB.out rfl _ _ _ rfl HO.out w.heap.size A m d l rfl H2.out ?_ ?_ ?_ ?_)
          · unfold maxLen; omega
          · omega
          · exact hb.size
          intro v2 w2 hown2 hg2
          have hb2 : Below w.heap.size w w2 := hb.grown hg2 hb.size (fun g' hg' => (HO.out.lt g' hg').1)
          have HV := Lib.hid hown2
          clear hown2 HO hmo' H2 hc
          go_wp2
          go_roundw
          case rel => exact ⟨q + 1, by omega, by go_num, by rw [H1.out, List.length_append]; have e1 := HV.out; have e2 := e1.1; rw [fcells_len, List.length_append] at e2; rw [show (allF (L.take q)).length + l.length = (allF (L.take q)).length + m by omega]; exact e1, hb2⟩
          case measure => simp [intOf]; omega
        · obtain rfl : q = k := by omega
          go_wp2
          go_ret
          exact ⟨_, rfl, by have := HO.out; rw [List.take_of_length_le (by rw [HN.out]; omega)] at this; exact this, hb⟩
end Go.Proofs.Ytlkpbpecgdphaaa
namespace Go.Proofs.Ytlkpbpecgdphaaa
open Go.RowKit

theorem owns_less {w : World} {base base' : Nat} {e : TypeId} {size : Nat} {v : Value} {n : Nat} {xs : List Value} (h : w.ownsRow base e size v n xs) (hb : base' ≤ base) : w.ownsRow base' e size v n xs := by
  refine ⟨h.1, ?_⟩
  rcases h.2 with h2 | ⟨g, cap, cur, hv, hg, r⟩
  · exact .inl h2
  · exact .inr ⟨g, cap, cur, hv, Nat.le_trans hb hg, r⟩

theorem RdL_one {w : World} {g off : Nat} {B : Nat} {A : Option Addr} {n c : Nat} {l : List F} (hc : w.cell? ⟨g, off, none⟩ = some (.slice A n c)) (h : RdF w B A n c l)
    {L : List (Option Addr × Nat × Nat × List F)} (hL : RdL w B g (off + 1) L) : RdL w B g off ((A, n, c, l) :: L) := by
  intro j s hs
  cases j with
  | zero => simp at hs; subst hs; exact ⟨hc, h⟩
  | succ j =>
    have := hL j s (by simpa using hs)
    rw [show off + 1 + j = off + (j + 1) by omega] at this
    exact this
theorem RdL_nil {w : World} {g off : Nat} {B : Nat} : RdL w B g off [] := by
  intro j s hs
  simp at hs

set_option maxHeartbeats 1000000 in
set_option maxRecDepth 100000 in
/-- files.Put. -/
theorem put_any (A : Option Addr) (n c : Nat) (l : List F) (x t : ByteArray) (w : World) (h : RdF w w.heap.size A n c l) (hs : Rises l) (hn : n ≤ 900000) :
    Calls Try.prog 44 #[.slice A n c, .agg #[.string x, .string t]] w fun e w' => ∃ v, e = .returned v ∧ w'.ownsRow w.heap.size 57 2 v (putF l (x, t)).length (fcells (putF l (x, t))) ∧ Below w.heap.size w w' := by
  have hle := len_put_le hs (x, t)
  rw [h.1] at hle
  have hb0 : Below w.heap.size w (w.alloc (.cells #[.string x, .string t] 57)) := (Below.refl _ _).alloc (Nat.le_refl _) _
  have HR := Lib.hid ((h.below hb0).more hb0.size)
  clear h
  go_enter Try.func44, Try.ntmps44
  go_wp2_with fail
  refine (around_any A n c l x (w.alloc (.cells #[.string x, .string t] 57)) HR.out hs (by omega)).mono ?_
  rintro e w1 ⟨A1, n1, c1, A2, n2, c2, rfl, h1, h2, hb⟩
  have hc0 : w1.cell? ⟨w.heap.size, 0, none⟩ = some (.string x) := by
    rw [hb.cell (p := ⟨w.heap.size, 0, none⟩) (by simp), World.cell?_alloc_at _ _ _ _ rfl]; rfl
  have hc1 : w1.cell? ⟨w.heap.size, 1, none⟩ = some (.string t) := by
    rw [hb.cell (p := ⟨w.heap.size, 1, none⟩) (by simp), World.cell?_alloc_at _ _ _ _ rfl]; rfl
  have H1 := Lib.hid h1
  have H2 := Lib.hid h2
  clear h1 h2
  go_wp2_with fail
  have hs0 : w.heap.size ≤ w1.heap.size := by have := hb.size; simp at this; omega
  have hbw1 : Below w.heap.size w w1 := hb0.trans (hb.mono (by simp))
  have h1 := H1.out
  have h2 := H2.out
  clear H1 H2
  have hbx : Below (w.alloc (.cells #[.string x, .string t] 57)).heap.size (w.alloc (.cells #[.string x, .string t] 57)) ((w1.alloc (.cells #[.string x, .string t] 57)).alloc (.cells #[.slice A1 n1 c1, .slice (some ⟨w1.heap.size, 0, none⟩) 1 1, .slice A2 n2 c2] 22)) :=
    (hb.alloc hb.size _).alloc (by have := hb.size; simp at this ⊢; omega) _
  have hbw : Below w.heap.size w ((w1.alloc (.cells #[.string x, .string t] 57)).alloc (.cells #[.slice A1 n1 c1, .slice (some ⟨w1.heap.size, 0, none⟩) 1 1, .slice A2 n2 c2] 22)) :=
    (hbw1.alloc hs0 _).alloc (by simp; omega) _
  have g1 := (h1.below hbx).more hbx.size
  have g2 := (h2.below hbx).more hbx.size
  have gm : RdF ((w1.alloc (.cells #[.string x, .string t] 57)).alloc (.cells #[.slice A1 n1 c1, .slice (some ⟨w1.heap.size, 0, none⟩) 1 1, .slice A2 n2 c2] 22)) ((w1.alloc (.cells #[.string x, .string t] 57)).alloc (.cells #[.slice A1 n1 c1, .slice (some ⟨w1.heap.size, 0, none⟩) 1 1, .slice A2 n2 c2] 22)).heap.size (some ⟨w1.heap.size, 0, none⟩) 1 1 [(x, t)] := by
    refine ⟨rfl, Nat.le_refl _, by unfold maxLen; omega, fun _ => ⟨w1.heap.size, 0, rfl, by simp; omega, fun j u hu => ?_⟩⟩
    rw [World.cell?_alloc_past _ _ _ (by simp), World.cell?_alloc_at _ _ _ _ rfl]
    match j with
    | 0 => simpa [fcells] using hu
    | 1 => simpa [fcells] using hu
    | j + 2 => simp [fcells] at hu
  have hr : RdL ((w1.alloc (.cells #[.string x, .string t] 57)).alloc (.cells #[.slice A1 n1 c1, .slice (some ⟨w1.heap.size, 0, none⟩) 1 1, .slice A2 n2 c2] 22)) ((w1.alloc (.cells #[.string x, .string t] 57)).alloc (.cells #[.slice A1 n1 c1, .slice (some ⟨w1.heap.size, 0, none⟩) 1 1, .slice A2 n2 c2] 22)).heap.size (w1.heap.size + 1) 0 [(A1, n1, c1, lo l x), (some ⟨w1.heap.size, 0, none⟩, 1, 1, [(x, t)]), (A2, n2, c2, hi l x)] :=
    RdL_one (by rw [World.cell?_alloc_at _ _ _ _ (by simp)]; rfl) g1 (RdL_one (by rw [World.cell?_alloc_at _ _ _ _ (by simp)]; rfl) gm (RdL_one (by rw [World.cell?_alloc_at _ _ _ _ (by simp)]; rfl) g2 RdL_nil))
  clear g1 g2 gm h1 h2 hbx
  have e1 : allF [(A1, n1, c1, lo l x), (some ⟨w1.heap.size, 0, none⟩, 1, 1, [(x, t)]), (A2, n2, c2, hi l x)] = putF l (x, t) := by simp [allF, putF]
  have hc := concat_any (w1.heap.size + 1) 0 3 _ _ (by simp) hr (by simp) (by rw [e1]; omega)
  rw [e1] at hc
  have HC := Lib.hid hc
  clear hc hr e1
  refine HC.out.mono ?_
  rintro e w2 ⟨v, rfl, hown, hb2⟩
  have HO := Lib.hid hown
  have hs2 := hbw.size
  clear HC hown hc0 hc1
  go_wp2
  go_ret
  exact ⟨_, rfl, owns_less HO.out hs2, hbw.trans (hb2.mono hs2)⟩
end Go.Proofs.Ytlkpbpecgdphaaa
namespace Go.Proofs.Ytlkpbpecgdphaaa
open Go.RowKit

def tcells (l : List ByteArray) : List Value := l.map Value.string
theorem tcells_one (l : List ByteArray) : ∀ u ∈ tcells l, u.oneCell' = true := by
  intro u hu
  obtain ⟨f, _, rfl⟩ := List.mem_map.1 hu
  rfl
/-- The slice (A, n, c) reads as the texts l, and lies below block B. -/
def RdS (w : World) (B : Nat) (A : Option Addr) (n c : Nat) (l : List ByteArray) : Prop :=
  l.length = n ∧ n ≤ c ∧ c ≤ maxLen ∧ (0 < n → ∃ b off, A = some ⟨b, off, none⟩ ∧ b < B ∧ ∀ j u, l[j]? = some u → w.cell? ⟨b, off + j, none⟩ = some (.string u))
section
variable {w w' : World} {B B' n c : Nat} {A : Option Addr} {l : List ByteArray}
theorem RdS.nil (w : World) (B : Nat) : RdS w B none 0 0 [] := ⟨rfl, Nat.le_refl _, Nat.zero_le _, fun h => absurd h (by omega)⟩
theorem RdS.keep (h : RdS w B A n c l) (hk : ∀ p : Addr, p.block < B → w'.cell? p = w.cell? p) : RdS w' B A n c l :=
  ⟨h.1, h.2.1, h.2.2.1, fun hn => by
    obtain ⟨b, off, e, hb, hc⟩ := h.2.2.2 hn
    exact ⟨b, off, e, hb, fun j u hu => (hk ⟨b, off + j, none⟩ hb).trans (hc j u hu)⟩⟩
theorem RdS.more (h : RdS w B A n c l) (hB : B ≤ B') : RdS w B' A n c l :=
  ⟨h.1, h.2.1, h.2.2.1, fun hn => by
    obtain ⟨b, off, e, hb, hc⟩ := h.2.2.2 hn
    exact ⟨b, off, e, by omega, hc⟩⟩
theorem RdS.below (h : RdS w B A n c l) (hb : Below B w w') : RdS w' B A n c l := h.keep fun _ hp => hb.cell hp
theorem RdS.belowS (h : RdS w w.heap.size A n c l) (hb : Below w.heap.size w w') : RdS w' w'.heap.size A n c l := (h.below hb).more hb.size
theorem RdS.drewN (h : RdS w B A n c l) (k : Nat) : RdS (w.drewN k) B A n c l := h
theorem RdS.at_ (h : RdS w B A n c l) {i : Nat} {f : ByteArray} (hi : l[i]? = some f) : ∃ b off, A = some ⟨b, off, none⟩ ∧ b < B ∧ w.cell? ⟨b, off + i, none⟩ = some (.string f) := by
  have hl : i < l.length := (List.getElem?_eq_some_iff.1 hi).1
  obtain ⟨b, off, e, hb, hc⟩ := h.2.2.2 (by have := h.1; omega)
  exact ⟨b, off, e, hb, hc _ _ hi⟩
theorem RdS.of_own {base : Nat} {e : TypeId} {v : Value} (h : w.ownsRow base e 1 v n (tcells l)) : ∃ A c, v = .slice A n c ∧ RdS w w.heap.size A n c l := by
  have hl : l.length = n := by have := h.1; rw [tcells, List.length_map] at this; omega
  rcases h.2 with ⟨rfl, rfl⟩ | ⟨g, cap, cur, rfl, hb, hh, hn, hm, hs, ht⟩
  · obtain rfl : l = [] := List.eq_nil_of_length_eq_zero hl
    exact ⟨none, 0, rfl, RdS.nil _ _⟩
  · refine ⟨_, cap, rfl, hl, hn, hm, fun _ => ⟨g, 0, rfl, (Array.getElem?_eq_some_iff.1 hh).1, fun j u hu => ?_⟩⟩
    have := h.cells (g := g) rfl j (.string u) (by rw [tcells, List.getElem?_map, hu]; rfl)
    rwa [Go.WideShapes.add_plain] at this
end

/-- Is a text among others? -/
def inT (l : List ByteArray) (s : ByteArray) : Bool := l.any fun f => f == s
theorem inT_at {l : List ByteArray} {s : ByteArray} {k : Nat} {f : ByteArray} (h : l[k]? = some f) (e : f = s) : inT l s = true := by
  simp only [inT, List.any_eq_true]
  exact ⟨f, List.mem_of_getElem? h, by simpa using e⟩
theorem inT_no {l : List ByteArray} {s : ByteArray} (h : ∀ j g, j < l.length → l[j]? = some g → g ≠ s) : inT l s = false := by
  rw [inT, List.any_eq_false]
  intro f hf
  obtain ⟨j, hj, e⟩ := List.mem_iff_getElem.1 hf
  have := h j f hj (by rw [List.getElem?_eq_getElem hj, e])
  simpa using this
def NoT (l : List ByteArray) (s : ByteArray) (k : Nat) : Prop := ∀ j g, j < k → l[j]? = some g → g ≠ s
theorem NoT.next {l : List ByteArray} {s : ByteArray} {k : Nat} {f : ByteArray} (h : NoT l s k) (hf : l[k]? = some f) (hq : (f.toList == s.toList) = false) : NoT l s (k + 1) := by
  intro j g hj hg
  rcases Nat.lt_or_ge j k with h1 | h1
  · exact h j g h1 hg
  · obtain rfl : j = k := by omega
    rw [hf] at hg
    injection hg with hg
    subst hg
    rintro rfl
    simp at hq
def InRel (l : List ByteArray) (s : ByteArray) (i : Value) : Prop := ∃ k : Nat, k ≤ l.length ∧ i = .int .i64 k ∧ NoT l s k

set_option maxHeartbeats 1000000 in
set_option maxRecDepth 100000 in
theorem in_any (A : Option Addr) (n c : Nat) (l : List ByteArray) (s : ByteArray) (w : World) (h : RdS w w.heap.size A n c l) (hn : n ≤ 1000000) :
    Calls Try.prog 37 #[.slice A n c, .string s] w fun e w' => e = .returned (.bool (inT l s)) ∧ w = w' := by
  have HR := Lib.hid h
  have HL := Lib.hid h.1
  clear h
  generalize hh : inT l s = b
  have HH := Lib.hid hh
  clear hh
  go_enter Try.func37, Try.ntmps37
  go_wp2
  go_loop [5] (fun i => InRel l s i) (fun i => n - (intOf i).toNat)
  case atStart => exact ⟨0, Nat.zero_le _, rfl, fun j g h => by omega⟩
  case round =>
    obtain ⟨k, hk, rfl, hno⟩ := hrel
    have hkn : k ≤ n := by rw [← HL.out]; exact hk
    clear hk
    have HN := Lib.hid hno
    clear hno
    by_cases hlt : k < n
    · obtain ⟨f, hf⟩ : ∃ f, l[k]? = some f := ⟨_, List.getElem?_eq_getElem (by rw [HL.out]; exact hlt)⟩
      obtain ⟨b', off, rfl, _, hc1⟩ := HR.out.at_ hf
      have hkz : (k : Int) < (n : Int) := by omega
      have HF := Lib.hid hf
      clear hf
      cases hq : (f.toList == s.toList) with
      | true =>
        have hres := inT_at HF.out (toList_inj (by simpa using hq))
        rw [HH.out] at hres
        have HX := Lib.hid hres
        clear hres
        go_wp2
        go_ret
        exact ⟨by rw [HX.out]; rfl, rfl⟩
      | false =>
        go_wp2
        go_round
        case rel => exact ⟨k + 1, by rw [HL.out]; omega, by go_num, HN.out.next HF.out hq⟩
        case measure => simp [intOf]; omega
    · obtain rfl : k = n := by omega
      have hno := inT_no (s := s) (l := l) (fun j g hj hg => HN.out j g (by rw [← HL.out]; exact hj) hg)
      rw [HH.out] at hno
      have H1 := Lib.hid hno
      clear hno
      go_wp2
      go_ret
      exact ⟨by rw [H1.out]; rfl, rfl⟩

def IdxPost (l : List ByteArray) (s : ByteArray) (w : World) (e : Ending) (w' : World) : Prop := ∃ i : Int, e = .returned (.int .i64 i) ∧ inT l s = decide (0 ≤ i) ∧ w = w'
set_option maxHeartbeats 1000000 in
set_option maxRecDepth 100000 in
theorem index_any (A : Option Addr) (n c : Nat) (l : List ByteArray) (s : ByteArray) (w : World) (h : RdS w w.heap.size A n c l) (hn : n ≤ 1000000) :
    Calls Try.prog 75 #[.slice A n c, .string s] w (IdxPost l s w) := by
  have HR := Lib.hid h
  have HL := Lib.hid h.1
  clear h
  go_enter Try.func75, Try.ntmps75
  go_wp2
  go_loop [8] (fun i => InRel l s i) (fun i => n - (intOf i).toNat)
  case atStart => exact ⟨0, Nat.zero_le _, rfl, fun j g h => by omega⟩
  case round =>
    obtain ⟨k, hk, rfl, hno⟩ := hrel
    have hkn : k ≤ n := by rw [← HL.out]; exact hk
    clear hk
    have HN := Lib.hid hno
    clear hno
    by_cases hlt : k < n
    · obtain ⟨f, hf⟩ : ∃ f, l[k]? = some f := ⟨_, List.getElem?_eq_getElem (by rw [HL.out]; exact hlt)⟩
      obtain ⟨b', off, rfl, _, hc1⟩ := HR.out.at_ hf
      have hkz : (k : Int) < (n : Int) := by omega
      have HF := Lib.hid hf
      clear hf
      cases hq : (s.toList == f.toList) with
      | true =>
        have hres := inT_at HF.out (toList_inj (by simpa using hq : s.toList = f.toList)).symm
        have HX := Lib.hid hres
        clear hres
        go_wp2
        go_ret
        exact ⟨k, rfl, by rw [HX.out]; simp, rfl⟩
      | false =>
        go_wp2
        go_round
        case rel => exact ⟨k + 1, by rw [HL.out]; omega, by go_num, HN.out.next HF.out (by rw [beq_eq_false_iff_ne] at hq ⊢; exact fun e => hq e.symm)⟩
        case measure => simp [intOf]; omega
    · obtain rfl : k = n := by omega
      have hno := inT_no (s := s) (l := l) (fun j g hj hg => HN.out j g (by rw [← HL.out]; exact hj) hg)
      have H1 := Lib.hid hno
      clear hno
      go_wp2
      go_ret
      exact ⟨-1, rfl, by rw [H1.out]; rfl, rfl⟩

theorem contains_any (A : Option Addr) (n c : Nat) (l : List ByteArray) (s : ByteArray) (w : World) (h : RdS w w.heap.size A n c l) (hn : n ≤ 1000000) :
    Calls Try.prog 69 #[.slice A n c, .string s] w fun e w' => e = .returned (.bool (inT l s)) ∧ w = w' := by
  have HR := Lib.hid h
  clear h
  generalize hh : inT l s = b
  have HH := Lib.hid hh
  clear hh
  go_enter Try.func69, Try.ntmps69
  go_wp2_with fail
  refine (index_any A n c l s w HR.out hn).mono ?_
  rintro e w1 ⟨i, rfl, hi, rfl⟩
  rw [HH.out] at hi
  have HI := Lib.hid hi
  clear hi
  go_wp2
  go_ret
  exact ⟨by rw [HI.out]; rfl, rfl⟩

/-- Short texts, and few. -/
def ShortT (l : List ByteArray) (many long : Nat) : Prop := l.length ≤ many ∧ ∀ f ∈ l, f.size ≤ long
def LtPost (l : List ByteArray) (many long : Nat) (w : World) (e : Ending) (w' : World) : Prop := ∃ b, e = .returned (.bool b) ∧ (b = true → ShortT l many long) ∧ w = w'
def LtRel (l : List ByteArray) (long : Nat) (i : Value) : Prop := ∃ k : Nat, k ≤ l.length ∧ i = .int .i64 k ∧ ∀ j f, j < k → l[j]? = some f → f.size ≤ long
set_option maxHeartbeats 1000000 in
set_option maxRecDepth 100000 in
theorem lightTexts_any (A : Option Addr) (n c : Nat) (l : List ByteArray) (many long : Nat) (w : World) (h : RdS w w.heap.size A n c l) (hmany : many ≤ 1000) (_hlong : long ≤ 100000) :
    Calls Try.prog 17 #[.slice A n c, .int .i64 many, .int .i64 long] w (LtPost l many long w) := by
  have HR := Lib.hid h
  have HL := Lib.hid h.1
  have hm := h.2.2.1
  have hnc := h.2.1
  unfold maxLen at hm
  clear h
  by_cases hb : many < n
  · have hd : (many : Int) < (n : Int) := by omega
    go_enter Try.func17, Try.ntmps17
    go_wp2
    go_ret
    exact ⟨false, rfl, by simp, rfl⟩
  have hd : decide ((many : Int) < (n : Int)) = false := decide_eq_false (by omega)
  go_enter Try.func17, Try.ntmps17
  go_wp2
  go_loop [7] (fun i => LtRel l long i) (fun i => n - (intOf i).toNat)
  case atStart => exact ⟨0, Nat.zero_le _, rfl, fun j g h => by omega⟩
  case round =>
    obtain ⟨k, hk, rfl, hno⟩ := hrel
    have hkn : k ≤ n := by rw [← HL.out]; exact hk
    clear hk
    have HN := Lib.hid hno
    clear hno
    by_cases hlt : k < n
    · obtain ⟨f, hf⟩ : ∃ f, l[k]? = some f := ⟨_, List.getElem?_eq_getElem (by rw [HL.out]; exact hlt)⟩
      obtain ⟨b', off, rfl, _, hc1⟩ := HR.out.at_ hf
      have hkz : (k : Int) < (n : Int) := by omega
      have HF := Lib.hid hf
      clear hf
      by_cases hq : long < f.size
      · have t1 : (long : Int) < (f.size : Int) := by omega
        go_wp2
        go_ret
        exact ⟨false, rfl, by simp, rfl⟩
      · have t1 : decide ((long : Int) < (f.size : Int)) = false := decide_eq_false (by omega)
        go_wp2
        go_round
        case rel =>
          refine ⟨k + 1, by rw [HL.out]; omega, by go_num, fun j g hj hg => ?_⟩
          rcases Nat.lt_or_ge j k with h1 | h1
          · exact HN.out j g h1 hg
          · obtain rfl : j = k := by omega
            have e1 := HF.out
            rw [e1] at hg
            injection hg with hg
            subst hg
            omega
        case measure => simp [intOf]; omega
    · obtain rfl : k = n := by omega
      go_wp2
      go_ret
      refine ⟨true, rfl, fun _ => ⟨by rw [HL.out]; omega, fun f hf => ?_⟩, rfl⟩
      obtain ⟨j, hj, e⟩ := List.mem_iff_getElem.1 hf
      exact HN.out j f (by rw [← HL.out]; exact hj) (by rw [List.getElem?_eq_getElem hj, e])
end Go.Proofs.Ytlkpbpecgdphaaa
