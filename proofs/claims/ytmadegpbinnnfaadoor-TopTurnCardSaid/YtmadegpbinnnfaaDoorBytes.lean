/-
  WORDS AND WALKS for rows of bytes: slices.Reverse, recipe.turned and recipe.swapped: what each gives, for texts of at most 100000 bytes.
-/
import Derived.Test.YtmadegpbinnnfaaDoorOver
import Derived.Lib.ConvBytes
import Derived.Laws.IdiomStrings
import Derived.RegionTactic
import Derived.BigRegion
namespace Go.Proofs.YtmadegpbinnnfaaDoor
open Go.RowKit

/-- The first n cells of block g are the bytes f, and may be written. -/
def ByF (w : World) (g n : Nat) (f : Nat → UInt8) : Prop :=
  ∃ (C : Array Value) (t : TypeId) (fr : Nat × Nat), w.heap[g]? = some (.cells C t fr) ∧ n ≤ fr.1 ∧ ∀ j, j < n → C[j]? = some (.int .u8 ((f j).toNat : Int))
section
variable {w w' : World} {g n : Nat} {f : Nat → UInt8}
theorem ByF.cell (h : ByF w g n f) {j : Nat} (hj : j < n) : w.cell? ⟨g, j, none⟩ = some (.int .u8 ((f j).toNat : Int)) := by
  obtain ⟨C, t, fr, hh, _, hc⟩ := h
  rw [cell_of_row w g j C t fr hh]; exact hc j hj
theorem ByF.frozen (h : ByF w g n f) {j : Nat} (hj : j < n) : w.frozen? ⟨g, j, none⟩ = false := by
  obtain ⟨C, t, fr, hh, hf, hc⟩ := h
  simp [World.frozen?, hh]
  omega
theorem ByF.lt (h : ByF w g n f) : g < w.heap.size := by obtain ⟨_, _, _, hh, _⟩ := h; exact (Array.getElem?_eq_some_iff.1 hh).1
theorem ByF.set (h : ByF w g n f) {j : Nat} (b : UInt8) : ByF (w.setCell ⟨g, j, none⟩ (.int .u8 (b.toNat : Int))) g n (fun m => if m = j then b else f m) := by
  obtain ⟨C, t, fr, hh, hf, hc⟩ := h
  refine ⟨C.setIfInBounds j (.int .u8 (b.toNat : Int)), t, fr, by simp [World.setCell, Array.getElem?_modify, hh], hf, fun m hm => ?_⟩
  have hcm := hc m hm
  have hms : m < C.size := (Array.getElem?_eq_some_iff.1 hcm).1
  rw [Array.getElem?_setIfInBounds]
  by_cases e : j = m
  · subst e; rw [if_pos rfl, if_pos hms]; simp
  · rw [if_neg e, hcm]
    have e2 : ¬ m = j := fun e' => e e'.symm
    simp [e2]
theorem ByF.congr {f' : Nat → UInt8} (h : ByF w g n f) (e : ∀ m, m < n → f m = f' m) : ByF w g n f' := by
  obtain ⟨C, t, fr, hh, hf, hc⟩ := h
  exact ⟨C, t, fr, hh, hf, fun j hj => by rw [← e j hj]; exact hc j hj⟩
theorem ByF.drewN (h : ByF w g n f) (k : Nat) : ByF (w.drewN k) g n f := h
theorem ByF.below {B : Nat} (h : ByF w g n f) (hb : Below B w w') (hg : g < B) : ByF w' g n f := by
  obtain ⟨C, t, fr, hh, hf, hc⟩ := h
  exact ⟨C, t, fr, (hb.block g hg).trans hh, hf, hc⟩
end
/-- The bytes of a text, by place. -/
def byteAt (s : ByteArray) (j : Nat) : UInt8 := s.data.toList.getD j 0
theorem bytes_new (w : World) (e : TypeId) (s : ByteArray) : ByF (Lib.bytesWorld w e s) w.heap.size s.size (byteAt s) := by
  refine ⟨Lib.bytesCells w e s, e, _, Lib.bytesWorld_at_new w e s, ?_, fun j hj => ?_⟩
  · simp [Lib.bytesCells]
  · have h := Lib.bytesWorld_cell w e s j hj
    rw [cell_of_row _ _ _ _ _ _ (Lib.bytesWorld_at_new w e s)] at h
    exact h
theorem bytes_below (w : World) (e : TypeId) (s : ByteArray) : Below w.heap.size w (Lib.bytesWorld w e s) :=
  ⟨rfl, rfl, rfl, by rw [Lib.bytesWorld_size]; omega, fun k hk => Lib.bytesWorld_at_old w e s k hk⟩
/-- The text of bytes by place. -/
def ofBytes (n : Nat) (f : Nat → UInt8) : ByteArray := ⟨((List.range n).map f).toArray⟩
theorem convert_back {P : Program} (w : World) (src dst e : TypeId) (g cap n : Nat) (f : Nat → UInt8) (hs : P.underlying src = some (.slice e)) (he : P.underlying e = some (.int .u8)) (hd : P.underlying dst = some .string) (h : ByF w g n f) :
    (convert src dst (.slice (some ⟨g, 0, none⟩) n cap)).run P w = .ok (.string (ofBytes n f)) w := by
  have := run_convert_bytes_back (P := P) w src dst e ⟨g, 0, none⟩ cap ((List.range n).map f) hs he hd (fun j hj => by
    rw [Go.WideShapes.add_plain, Nat.zero_add]
    have hj' : j < n := by simpa using hj
    rw [h.cell hj']
    simp)
  simpa [ofBytes] using this

def revF (n k : Nat) (f : Nat → UInt8) (m : Nat) : UInt8 := if m < k ∨ n ≤ m + k then f (n - 1 - m) else f m
def RvRel (w : World) (g n : Nat) (f : Nat → UInt8) (i j : Value) (wr : World) : Prop :=
  ∃ k q : Nat, k + q + 1 = n ∧ i = .int .i64 k ∧ j = .int .i64 q ∧ ByF wr g n (revF n k f) ∧ w.grownBy wr (some g)

set_option maxHeartbeats 2000000 in
set_option maxRecDepth 100000 in
theorem reverse_any (g n c : Nat) (f : Nat → UInt8) (w : World) (h : ByF w g n f) (hn : n ≤ 100000) :
    Calls Tryd.prog 48 #[.slice (some ⟨g, 0, none⟩) n c] w fun e w' => e = .returned (.tuple #[]) ∧ ByF w' g n (fun m => f (n - 1 - m)) ∧ w.grownBy w' (some g) := by
  have HR := Lib.hid h
  clear h
  by_cases h0 : n = 0
  · subst h0
    go_enter Tryd.func48, Tryd.ntmps48
    go_wp2
    refine wp_loop_rounds 1 ?_
    rw [rounds_succ]
    go_wp2
    go_end0
    exact ⟨rfl, HR.out.congr (fun m hm => by omega), World.grownBy.refl _ _⟩
  obtain ⟨n, rfl⟩ : ∃ n', n = n' + 1 := ⟨n - 1, by omega⟩
  go_enter Tryd.func48, Tryd.ntmps48
  go_wp2
  go_loopw [2, 3] (fun i j wr => RvRel w g (n + 1) f i j wr) (fun i _ _ => n + 1 - (intOf i).toNat)
  case atStart => exact ⟨0, n, by omega, rfl, by go_num, HR.out.congr (fun m hm => by simp [revF]; intro h; omega), World.grownBy.refl _ _⟩
  case round =>
    obtain ⟨k, q, hkq, rfl, rfl, hby, hg⟩ := hrel
    have HB := Lib.hid hby
    clear hby
    have hkqle : k + q ≤ n := by omega
    have hkqge : n ≤ k + q := by omega
    have HK := Lib.hid hkq
    clear hkq
    by_cases hlt : k < q
    · have ck : wr.cell? ⟨g, k, none⟩ = some (.int .u8 ((f k).toNat : Int)) := by
        have := HB.out.cell (j := k) (by omega)
        rw [show revF (n + 1) k f k = f k by unfold revF; rw [if_neg (by omega)]] at this
        exact this
      have cq : wr.cell? ⟨g, q, none⟩ = some (.int .u8 ((f q).toNat : Int)) := by
        have := HB.out.cell (j := q) (by omega)
        rw [show revF (n + 1) k f q = f q by unfold revF; rw [if_neg (by omega)]] at this
        exact this
      have zk : wr.frozen? ⟨g, k, none⟩ = false := HB.out.frozen (by omega)
      have zq : wr.frozen? ⟨g, q, none⟩ = false := HB.out.frozen (by omega)
      have i1 : (k : Int) < (n : Int) + 1 := by omega
      have i2 : (q : Int) < (n : Int) + 1 := by omega
      generalize hfk : f k = bk at ck
      generalize hfq : f q = bq at cq
      have HFK := Lib.hid hfk
      have HFQ := Lib.hid hfq
      clear hfk hfq
      go_wp2
      go_region
      go_wp2
      go_roundw
      case rel =>
        have hkq := HK.out
        have b1 := (HB.out.set (j := k) bq).set (j := q) bk
        refine ⟨k + 1, q - 1, by omega, by go_num, by have e : ((q - 1 : Nat) : Int) = (q : Int) - 1 := by omega
                                                      rw [e], ?_, ?_⟩
        · refine ByF.congr (f := fun m => if m = q then bk else if m = k then bq else revF (n + 1) k f m) b1 (fun m hm => ?_)
          have e1 := HFK.out
          have e2 := HFQ.out
          unfold revF
          by_cases hq : m = q
          · subst hq
            rw [if_pos rfl, if_pos (by omega), ← e1]
            congr 1
            omega
          · rw [if_neg hq]
            by_cases hk : m = k
            · subst hk
              rw [if_pos rfl, if_pos (by omega), ← e2]
              congr 1
              omega
            · rw [if_neg hk]
              by_cases hc : m < k ∨ n + 1 ≤ m + k
              · rw [if_pos hc, if_pos (by omega)]
              · rw [if_neg hc, if_neg (by omega)]
        · exact ⟨hg.os, hg.tape, hg.output, (grown_trans (grown_trans hg (grown_setCell wr g k (.int .u8 (bq.toNat : Int)))) (grown_setCell _ g q (.int .u8 (bk.toNat : Int)))).size, (grown_trans (grown_trans hg (grown_setCell wr g k (.int .u8 (bq.toNat : Int)))) (grown_setCell _ g q (.int .u8 (bk.toNat : Int)))).block⟩
      case measure => simp [intOf]; omega
    · go_wp2
      go_end0
      refine ⟨rfl, HB.out.congr (fun m hm => ?_), hg⟩
      have hkq := HK.out
      unfold revF
      by_cases hc : m < k ∨ n + 1 ≤ m + k
      · rw [if_pos hc]
      · rw [if_neg hc]
        congr 1
        omega

def revT (s : ByteArray) : ByteArray := ⟨s.data.toList.reverse.toArray⟩
def swT (s : ByteArray) (x y : UInt8) : ByteArray := ⟨(s.data.toList.map fun b => if b = x then y else b).toArray⟩
theorem byteAt_get (s : ByteArray) (j : Nat) (h : j < s.data.toList.length) : byteAt s j = s.data.toList[j] := by
  unfold byteAt
  rw [List.getD_eq_getElem?_getD, List.getElem?_eq_getElem h]; rfl
theorem ofBytes_rev (s : ByteArray) : ofBytes s.size (fun m => byteAt s (s.size - 1 - m)) = revT s := by
  have hl : s.data.toList.length = s.size := by simp
  have e : (List.range s.size).map (fun m => byteAt s (s.size - 1 - m)) = s.data.toList.reverse := by
    apply List.ext_getElem
    · simp
    · intro j h1 h2
      rw [List.getElem_map, List.getElem_range, List.getElem_reverse]
      have hj : j < s.size := by simpa using h1
      rw [byteAt_get s _ (by omega)]
      congr 1
  unfold ofBytes revT
  rw [e]
theorem ofBytes_sw (s : ByteArray) (x y : UInt8) : ofBytes s.size (fun m => if byteAt s m = x then y else byteAt s m) = swT s x y := by
  have e : (List.range s.size).map (fun m => if byteAt s m = x then y else byteAt s m) = s.data.toList.map fun b => if b = x then y else b := by
    apply List.ext_getElem
    · simp
    · intro j h1 h2
      have hj : j < s.data.toList.length := by simpa using h1
      rw [List.getElem_map, List.getElem_range, List.getElem_map, byteAt_get s j hj]
  unfold ofBytes swT
  rw [e]

set_option maxHeartbeats 1000000 in
set_option maxRecDepth 100000 in
theorem turned_any (s : ByteArray) (w : World) (hs : s.size ≤ 100000) : Calls Tryd.prog 32 #[.string s] w fun e w' => e = .returned (.string (revT s)) ∧ Below w.heap.size w w' := by
  have hconv := Lib.run_convert_string_bytes (P := Tryd.prog) w 9 79 5 s Tryd.underlying9 Tryd.underlying79 Tryd.underlying5
  have HB := Lib.hid (bytes_new w 5 s)
  have hb := bytes_below w 5 s
  have HE := Lib.hid (ofBytes_rev s)
  generalize Lib.bytesWorld w 5 s = wb at *
  generalize grownCap w s.size 0 5 = cap at *
  go_enter Tryd.func32, Tryd.ntmps32
  go_wp2_with fail
  refine (reverse_any w.heap.size s.size cap _ wb HB.out hs).mono ?_
  rintro e w1 ⟨rfl, hby, hg⟩
  have hback := convert_back (P := Tryd.prog) w1 79 9 5 w.heap.size cap s.size _ Tryd.underlying79 Tryd.underlying5 Tryd.underlying9 hby
  rw [HE.out] at hback
  clear hconv hby
  go_wp2
  go_ret
  exact ⟨rfl, hb.grown hg hb.size (fun k hk => by injection hk with hk; omega)⟩

def SwRel (w : World) (g n : Nat) (f : Nat → UInt8) (x y : UInt8) (i : Value) (wr : World) : Prop :=
  ∃ k : Nat, k ≤ n ∧ i = .int .i64 k ∧ ByF wr g n (fun m => if m < k ∧ f m = x then y else f m) ∧ w.grownBy wr (some g)

set_option maxHeartbeats 1000000 in
set_option maxRecDepth 100000 in
theorem swapped_any (s : ByteArray) (x y : UInt8) (w : World) (hs : s.size ≤ 100000) : Calls Tryd.prog 34 #[.string s, .int .u8 (x.toNat : Int), .int .u8 (y.toNat : Int)] w fun e w' => e = .returned (.string (swT s x y)) ∧ Below w.heap.size w w' := by
  have hconv := Lib.run_convert_string_bytes (P := Tryd.prog) w 9 79 5 s Tryd.underlying9 Tryd.underlying79 Tryd.underlying5
  have HB := Lib.hid (bytes_new w 5 s)
  have hb := bytes_below w 5 s
  have HE := Lib.hid (ofBytes_sw s x y)
  generalize Lib.bytesWorld w 5 s = wb at *
  generalize grownCap w s.size 0 5 = cap at *
  generalize byteAt s = f at *
  go_enter Tryd.func34, Tryd.ntmps34
  go_wp2
  clear hconv
  go_loopw [13] (fun i wr => SwRel wb w.heap.size s.size f x y i wr) (fun i _ => s.size - (intOf i).toNat)
  case atStart => exact ⟨0, Nat.zero_le _, rfl, HB.out.congr (fun m _ => by simp), World.grownBy.refl _ _⟩
  case round =>
    obtain ⟨k, hk, rfl, hby, hg⟩ := hrel
    have HY := Lib.hid hby
    clear hby
    by_cases hlt : k < s.size
    · have ck : wr.cell? ⟨w.heap.size, k, none⟩ = some (.int .u8 ((f k).toNat : Int)) := by
        have := HY.out.cell (j := k) hlt
        simpa using this
      have zk : wr.frozen? ⟨w.heap.size, k, none⟩ = false := HY.out.frozen hlt
      have i1 : (k : Int) < (s.size : Int) := by omega
      cases hq : (((f k).toNat : Int) == (x.toNat : Int)) with
      | true =>
        have hfx : f k = x := UInt8.toNat_inj.1 (by have : ((f k).toNat : Int) = (x.toNat : Int) := by simpa using hq
                                                    omega)
        have HFX := Lib.hid hfx
        clear hfx
        go_wp2
        go_roundw
        case rel =>
          refine ⟨k + 1, by omega, by go_num, (HY.out.set (j := k) y).congr (fun m _ => ?_), grown_trans hg (grown_setCell _ _ _ _)⟩
          have e := HFX.out
          by_cases hm : m = k
          · subst hm; simp [e]
          · have h1 : (m < k + 1) = (m < k) := by rw [eq_iff_iff]; omega
            simp [hm, h1]
        case measure => simp [intOf]; omega
      | false =>
        have hfx : f k ≠ x := by intro e; rw [e] at hq; simp at hq
        have HFX := Lib.hid hfx
        clear hfx
        go_wp2
        go_roundw
        case rel =>
          refine ⟨k + 1, by omega, by go_num, HY.out.congr (fun m _ => ?_), hg⟩
          have e := HFX.out
          by_cases hm : m = k
          · subst hm; simp [e]
          · have h1 : (m < k + 1) = (m < k) := by rw [eq_iff_iff]; omega
            simp [h1]
        case measure => simp [intOf]; omega
    · obtain rfl : k = s.size := by omega
      have hby := HY.out.congr (f' := fun m => if f m = x then y else f m) (fun m hm => by simp [hm])
      have hback := convert_back (P := Tryd.prog) wr 79 9 5 w.heap.size cap s.size _ Tryd.underlying79 Tryd.underlying5 Tryd.underlying9 hby
      rw [HE.out] at hback
      clear hby
      go_wp2
      go_ret
      exact ⟨rfl, hb.grown hg hb.size (fun k hk => by injection hk with hk; omega)⟩
end Go.Proofs.YtmadegpbinnnfaaDoor
