/-
  WALKS: store.tooMany; slices.Clone of changes; (*store.Store).Rows, Room.
-/
import Derived.Test.YtgkenknplepmeaaWpB
import Derived.Test.YtgkenknplepmeaaSrA
import Derived.Lib.LazyBuf
namespace Go.Proofs.Ytgkenknplepmeaa
open Go.RowKit Go.Sort

def glueR (f : Nat → ByteArray) : Nat → ByteArray
  | 0 => ⟨#[]⟩
  | k + 1 => glueR f k ++ f k
theorem glueR_succ (f : Nat → ByteArray) (k : Nat) : glueR f (k + 1) = glueR f k ++ f k := rfl
theorem glueR_size {f : Nat → ByteArray} (k : Nat) (h : ∀ i, i < k → (f i).size = 340) : (glueR f k).size = k * 340 := by
  induction k with
  | zero => rw [Nat.zero_mul]; rfl
  | succ k ih =>
    rw [glueR_succ, ByteArray.size_append, ih fun i hi => h i (by omega), h k (by omega), Nat.succ_mul]
theorem padB_full {s : ByteArray} (h : s.size = 340) : padB s = s := list_eq (by
  rw [padB_list, h, Nat.sub_self, List.replicate_zero, List.append_nil])
/-- What lies in an area. -/
def AreaOf (f : Nat → ByteArray) (S : ByteArray) : Prop := ∀ i, i < (S.size + 339) / 340 → f i = padB (S.extract (i * 340) (min (i * 340 + 340) S.size))
theorem glue_pre {f : Nat → ByteArray} {S : ByteArray} (h : AreaOf f S) (k : Nat) (hk : k * 340 ≤ S.size) : glueR f k = S.extract 0 (k * 340) := by
  induction k with
  | zero =>
    rw [Nat.zero_mul]
    refine list_eq ?_
    rw [ext_list]
    rfl
  | succ k ih =>
    have hk2 : k * 340 + 340 ≤ S.size := by rw [Nat.succ_mul] at hk; exact hk
    have h1 : k * 340 ≤ S.size := Nat.le_trans (Nat.le_add_right _ _) hk2
    have ih' := ih h1
    clear hk ih
    have h2 : k < (S.size + 339) / 340 := by omega
    have h3 : min (k * 340 + 340) S.size = k * 340 + 340 := by omega
    rw [glueR_succ, ih', h k h2, h3, padB_full (by rw [ext_size hk2]; omega), ext_app (Nat.zero_le _) (Nat.le_add_right _ _), Nat.succ_mul]
theorem glue_cut {f : Nat → ByteArray} {S : ByteArray} (h : AreaOf f S) : (glueR f ((S.size + 339) / 340)).extract 0 S.size = S := by
  by_cases h0 : S.size % 340 = 0
  · have e : (S.size + 339) / 340 = S.size / 340 := by omega
    rw [e, glue_pre h _ (by omega), show S.size / 340 * 340 = S.size by omega, ext_self, ext_self]
  · have e : (S.size + 339) / 340 = S.size / 340 + 1 := by omega
    rw [e, glueR_succ, glue_pre h _ (by omega), h _ (by omega), show min (S.size / 340 * 340 + 340) S.size = S.size by omega]
    refine list_eq ?_
    rw [ext_list, ByteArray.data_append, Array.toList_append, padB_list, ext_list, ext_list, List.drop_zero, List.drop_zero, Nat.sub_zero, Nat.sub_zero]
    have e2 : List.take (S.size - S.size / 340 * 340) (List.drop (S.size / 340 * 340) S.data.toList) = List.drop (S.size / 340 * 340) S.data.toList := List.take_of_length_le (by rw [List.length_drop, len_list]; omega)
    rw [e2, ← List.append_assoc, List.take_append_drop, List.take_append_of_le_length (by rw [len_list]; omega), ← len_list, List.take_length]
end Go.Proofs.Ytgkenknplepmeaa
namespace Go.Proofs.Ytgkenknplepmeaa
open Go.RowKit Go.Sort

/-- How many rows of files there are. -/
def fileN (l : List Ch) : Nat := (l.filter fun c => keyB pF c.key).length
def tmB (l : List Ch) : Bool := decide (20 < fileN l) || decide (20 < l.length - fileN l)
theorem fileN_take (l : List Ch) {k : Nat} {c : Ch} (h : l[k]? = some c) : fileN (l.take (k + 1)) = fileN (l.take k) + (if keyB pF c.key then 1 else 0) := by
  unfold fileN
  rw [List.take_add_one, h, List.filter_append, List.length_append]
  congr 1
  show ([c].filter _).length = _
  rw [List.filter_cons]
  split <;> rfl
theorem fileN_le (l : List Ch) : fileN l ≤ l.length := List.length_filter_le _ _
def TmRel (w : World) (l : List Ch) (v3 v8 : Value) (wr : World) : Prop := ∃ k : Nat, k ≤ l.length ∧ v8 = .int .i64 k ∧ v3 = .int .i64 (fileN (l.take k)) ∧ Below w.heap.size w wr
set_option maxHeartbeats 1000000 in
set_option maxRecDepth 100000 in
theorem tooMany_any (A : Option Addr) (n c : Nat) (l : List Ch) (w : World) (h : RdC w w.heap.size A n c l) (hn : n ≤ 100000) (hs : ∀ f ∈ l, f.key.size ≤ 1000000) :
    Calls Try.prog 82 #[.slice A n c] w fun e w' => e = .returned (.bool (tmB l)) ∧ Below w.heap.size w w' := by
  have HR := Lib.hid h
  have HL := Lib.hid h.1
  have HS := Lib.hid hs
  have hmc := h.2.1
  have hcm := h.2.2.1
  unfold maxLen at hcm
  clear h hs
  obtain ⟨tb, htb⟩ : ∃ tb, tb = tmB l := ⟨_, rfl⟩
  rw [← htb]
  have HTB := Lib.hid htb
  clear htb
  go_enter Try.func82, Try.ntmps82
  go_wp2
  go_loopw [3, 5, 8] (fun v3 _ v8 wx => TmRel w l v3 v8 wx) (fun _ _ v8 _ => n - (intOf v8).toNat)
  case atStart => exact ⟨0, Nat.zero_le _, rfl, rfl, Below.refl _ _⟩
  case round =>
    obtain ⟨k, hk, rfl, rfl, hb⟩ := hrel
    have hkn : k ≤ n := by rw [HL.out] at hk; exact hk
    have HB := Lib.hid hb
    clear hk hb
    by_cases hlt : k < n
    · obtain ⟨f, hf⟩ : ∃ f, l[k]? = some f := ⟨_, List.getElem?_eq_getElem (by rw [HL.out]; exact hlt)⟩
      obtain ⟨b', off, rfl, hbb, q0, q1, q2⟩ := (HR.out.below HB.out).at_ hf
      have hft := fileN_take l hf
      have hfl : fileN (l.take k) ≤ k := by have := fileN_le (l.take k); simp at this; omega
      have HFT := Lib.hid hft
      have HIS := Lib.hid (fun W => isFile_any f.key W (HS.out f (List.mem_of_getElem? hf)))
      have hx := StC.new wr f.key f.val f.gone tCh
      have x0 := hx.c0
      have x1 := hx.c1
      have x2 := hx.c2
      have HB2 := Lib.hid (HB.out.alloc HB.out.size (.cells #[.string f.key, .string f.val, .bool f.gone] tCh))
      have kz : (k : Int) < (n : Int) := by omega
      generalize hq : fileN (l.take k) = q at *
      have HQ := Lib.hid hq
      clear hf hft hx hq
      cases hkf : keyB pF f.key with
      | true =>
        rw [hkf] at HIS HFT
        go_wp2_with fail
        refine (HIS.out _).mono ?_
        rintro e w2 ⟨rfl, rfl⟩
        go_wp2
        go_roundw
        case rel => exact ⟨k + 1, by rw [HL.out]; omega, by go_num, by rw [HFT.out]; go_num, HB2.out⟩
        case measure => simp [intOf]; omega
      | false =>
        rw [hkf] at HIS HFT
        go_wp2_with fail
        refine (HIS.out _).mono ?_
        rintro e w2 ⟨rfl, rfl⟩
        go_wp2
        go_roundw
        case rel => exact ⟨k + 1, by rw [HL.out]; omega, by go_num, by rw [HFT.out]; rfl, HB2.out⟩
        case measure => simp [intOf]; omega
    · obtain rfl : n = k := by omega
      have htk : l.take n = l := by rw [← HL.out, List.take_length]
      have hfl := fileN_le l
      rw [htk]
      rw [HL.out] at hfl
      have htm : tmB l = (decide (20 < fileN l) || decide (20 < n - fileN l)) := by unfold tmB; rw [HL.out]
      have htb2 := HTB.out.trans htm
      clear htk htm HTB
      generalize fileN l = q at *
      by_cases h20 : 20 < q
      · have z1 : (20 : Int) < (q : Int) := by omega
        obtain rfl : tb = true := by rw [htb2, decide_eq_true h20]; rfl
        clear htb2
        go_wp2
        go_ret
        exact ⟨rfl, HB.out⟩
      · have z1 : decide ((20 : Int) < (q : Int)) = false := decide_eq_false (by omega)
        by_cases h21 : 20 < n - q
        · have z2 : (20 : Int) < (n : Int) - (q : Int) := by omega
          obtain rfl : tb = true := by rw [htb2, decide_eq_true h21]; simp
          clear htb2
          go_wp2
          go_ret
          exact ⟨rfl, HB.out⟩
        · have z2 : decide ((20 : Int) < (n : Int) - (q : Int)) = false := decide_eq_false (by omega)
          obtain rfl : tb = false := by rw [htb2, decide_eq_false h20, decide_eq_false h21]; rfl
          clear htb2
          go_wp2
          go_ret
          exact ⟨rfl, HB.out⟩
set_option maxHeartbeats 1000000 in
set_option maxRecDepth 100000 in
theorem cloneC_any (A : Option Addr) (n c : Nat) (l : List Ch) (w : World) (h : RdC w w.heap.size A n c l) (hn : n ≤ 900000) :
    Calls Try.prog 87 #[.slice A n c] w fun e w' => ∃ v, e = .returned v ∧ w'.ownsRow w.heap.size tCh 3 v n (ccells l) ∧ Below w.heap.size w w' := by
  obtain ⟨ti, hti, htz, hts, htb⟩ := change_parts
  have HI := Lib.hid hti
  have HZ := Lib.hid htz
  have HS := Lib.hid hts
  have HB := Lib.hid htb
  clear hti htz hts htb
  have hnil := fun (a : Option Addr) (k c : Nat) (W : World) => Lib.run_eql_slice_nil (P := Try.prog) W 36 tCh a k c 0 0 Try.underlying36
  rcases A with _ | ad
  · have h0 : n = 0 := by
      rcases Nat.eq_zero_or_pos n with e | e
      · exact e
      · obtain ⟨_, _, e, _⟩ := h.2.2.2 e; cases e
    subst h0
    obtain rfl : l = [] := List.eq_nil_of_length_eq_zero h.1
    clear h
    go_enter Try.func87, Try.ntmps87
    go_wp2
    go_ret
    exact ⟨_, rfl, World.ownsRow_nil _ _ _ _, Below.refl _ _⟩
  · have hb1 : Below w.heap.size w (w.alloc (.cells #[] tCh)) := (Below.refl _ _).alloc (Nat.le_refl _) _
    have hown : (w.alloc (.cells #[] tCh)).ownsRow w.heap.size tCh 3 (.slice (some ⟨w.heap.size, 0, none⟩) 0 0) 0 [] := World.ownsRow_made w #[] 0 (Nat.le_refl _) (Nat.zero_le _) (by simp)
    have HR := Lib.hid ((h.below hb1).rdx)
    have HO := Lib.hid hown
    have HB1 := Lib.hid hb1
    clear h hown hb1
    go_enter Try.func87, Try.ntmps87
    go_wp2_with (at_builtin; refine wpList_append_rd _ rfl (.tmp 5) (.tmp 6) _ rfl w.heap.size tCh ti _ 3 40 Try.underlying36 HI.out HZ.out HS.out HB.out rfl (by omega) _ _ _ rfl HO.out (some ad) n c (ccells l) rfl HR.out ?_ ?_ ?_ ?_)
    · unfold maxLen; omega
    · omega
    · simp
    intro v2 w2 hown2 hg2 _
    have HB2 := Lib.hid (HB1.out.grown hg2 (by simp) (fun g' hg' => (HO.out.lt g' hg').1))
    have HV := Lib.hid hown2
    clear hown2 hg2
    go_wp2
    go_ret
    exact ⟨_, rfl, by have := HV.out; simpa using this, HB2.out⟩
/-- A store in memory. -/
abbrev tSo : TypeId := 137
set_option maxHeartbeats 400000 in
set_option maxRecDepth 100000 in
theorem storeRows_any (ps p pl a : Nat) (A : Option Addr) (n c : Nat) (l : List Ch) (w : World) (hb : Blk w ps tSo #[ptr p, ptr pl, .int .i64 a, .slice A n c]) (h : RdC w w.heap.size A n c l) (hn : n ≤ 900000) :
    Calls Try.prog 54 #[ptr ps] w fun e w' => ∃ v, e = .returned v ∧ w'.ownsRow w.heap.size tCh 3 v n (ccells l) ∧ Below w.heap.size w w' := by
  have HC := Lib.hid (cloneC_any A n c l w h hn)
  have c3 := hb.cell 3
  clear hb h
  unfold ptr
  go_enter Try.func54, Try.ntmps54
  go_wp2_with fail
  refine HC.out.mono ?_
  rintro e w1 ⟨v, rfl, ho, hb1⟩
  have HO := Lib.hid ho
  have HB1 := Lib.hid hb1
  clear ho hb1 HC
  go_wp2
  go_ret
  exact ⟨v, rfl, HO.out, HB1.out⟩
set_option maxHeartbeats 400000 in
set_option maxRecDepth 100000 in
theorem storeRoom_any (ps p pl a fr mn fi u : Nat) (A : Option Addr) (n c : Nat) (w : World) (hb : Blk w ps tSo #[ptr p, ptr pl, .int .i64 a, .slice A n c]) (hl : Blk w pl tLog #[ptr p, .int .i64 fr, .int .i64 mn, .int .i64 fi, .int .i64 u]) (hm : mn ≤ 1000000) (hu : u ≤ 1000000) :
    Calls Try.prog 53 #[ptr ps] w fun e w' => e = .returned (.int .i64 ((mn : Int) - (u : Int))) ∧ ∃ k, w' = w.drewN k := by
  have HC := Lib.hid (room_any pl p fr mn fi u w hl hm hu)
  have c1 := hb.cell 1
  clear hb hl
  unfold ptr at *
  go_enter Try.func53, Try.ntmps53
  go_wp2_with fail
  refine HC.out.mono ?_
  rintro e w1 ⟨rfl, k, rfl⟩
  go_wp2
  go_ret
  exact ⟨rfl, k, rfl⟩
end Go.Proofs.Ytgkenknplepmeaa
