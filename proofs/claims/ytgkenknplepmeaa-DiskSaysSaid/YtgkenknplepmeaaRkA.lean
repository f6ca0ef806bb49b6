/-
  WORDS: the document's disk (hammerpondref.Disk) as it stands in memory; what each of its calls comes to. WALKS: noughts, step, Read.
-/
import Derived.Test.YtgkenknplepmeaaDkW
import Derived.Test.YtgkenknplepmeaaDkR
namespace Go.Proofs.Ytgkenknplepmeaa
open Go.RowKit

abbrev tRk : TypeId := 50
abbrev tTn : TypeId := 113
abbrev tTx : TypeId := 9
abbrev TN := List (Nat × ByteArray)
def txC (l : List ByteArray) : List Value := l.map .string
def tnC (l : TN) : List Value := l.flatMap (fun x => [.int .i64 (x.1 : Int), .string x.2])
theorem txC_len (l : List ByteArray) : (txC l).length = l.length := by simp [txC]
theorem tnC_len : ∀ l : TN, (tnC l).length = l.length * 2
  | [] => rfl
  | x :: r => by
    have := tnC_len r
    simp only [tnC, List.flatMap_cons, List.length_append, List.length_cons, List.length_nil] at this ⊢
    omega
theorem tnC_snoc (l : TN) (x : Nat × ByteArray) : tnC (l ++ [x]) = tnC l ++ [.int .i64 (x.1 : Int), .string x.2] := by simp [tnC]
theorem tnC_at : ∀ {l : TN} {k : Nat} {x : Nat × ByteArray}, l[k]? = some x → (tnC l)[k * 2]? = some (.int .i64 (x.1 : Int)) ∧ (tnC l)[k * 2 + 1]? = some (.string x.2)
  | [], k, x, h => by simp at h
  | y :: r, 0, x, h => by
    obtain rfl : y = x := by simpa using h
    exact ⟨rfl, rfl⟩
  | y :: r, k + 1, x, h => by
    have ih := tnC_at (l := r) (k := k) (x := x) (by simpa using h)
    simp only [tnC, List.flatMap_cons] at ih ⊢
    rw [show (k + 1) * 2 = k * 2 + 2 by omega, show k * 2 + 2 + 1 = k * 2 + 1 + 2 by omega]
    exact ih
theorem txC_one (l : List ByteArray) : ∀ u ∈ txC l, u.oneCell' = true := fun u hu => by
  obtain ⟨x, _, rfl⟩ := List.mem_map.1 hu; rfl
theorem tnC_one (l : TN) : ∀ u ∈ tnC l, u.oneCell' = true := fun u hu => by
  obtain ⟨x, _, h⟩ := List.mem_flatMap.1 hu
  simp at h
  rcases h with rfl | rfl <;> rfl
structure Rk where
  kept : List ByteArray
  now : List ByteArray
  wait : TN
  fuse : Int
  down : Bool
/-- The document's disk in memory. -/
structure RkAt (w : World) (base q : Nat) (VK VN VW : Value) (R : Rk) : Prop where
  hq : base ≤ q
  st : Blk w q tRk #[VK, VN, VW, .int .i64 R.fuse, .bool R.down]
  kept : w.ownsRow base tTx 1 VK R.kept.length (txC R.kept)
  now : w.ownsRow base tTx 1 VN R.now.length (txC R.now)
  wait : w.ownsRow base tTn 2 VW R.wait.length (tnC R.wait)
  sep : ∀ g, VK.ownBlock = some g → VN.ownBlock ≠ some g
section
variable {w w' : World} {base q : Nat} {VK VN VW : Value} {R : Rk}
theorem own_stands {e : TypeId} {s : Nat} {v : Value} {n : Nat} {xs : List Value} (h : w.ownsRow base e s v n xs) (hk : ∀ g cs, v.ownBlock = some g → Blk w g e cs → Blk w' g e cs) : w'.ownsRow base e s v n xs := by
  refine ⟨h.1, ?_⟩
  rcases h.2 with h2 | ⟨g, cap, cur, rfl, h3, h4, h5⟩
  · exact .inl h2
  · exact .inr ⟨g, cap, cur, rfl, h3, hk g cur rfl h4, h5⟩
/-- The document's disk stands where blocks of its types stand. -/
theorem RkAt.ty (h : RkAt w base q VK VN VW R) (hk : Ty w w') : RkAt w' base q VK VN VW R :=
  ⟨h.hq, hk _ _ _ h.st (by decide) (by decide) (by decide), own_stands h.kept (fun g cs _ hb => hk g _ cs hb (by decide) (by decide) (by decide)),
    own_stands h.now (fun g cs _ hb => hk g _ cs hb (by decide) (by decide) (by decide)), own_stands h.wait (fun g cs _ hb => hk g _ cs hb (by decide) (by decide) (by decide)), h.sep⟩
theorem RkAt.below (h : RkAt w base q VK VN VW R) (hk : Below w.heap.size w w') : RkAt w' base q VK VN VW R := h.ty (Ty.of_below hk)
end
/-- Whatever block is none of the document's disk stands. -/
def TyR (w w' : World) : Prop := ∀ g t cs, Blk w g t cs → t ≠ tRk → t ≠ tTx → t ≠ tTn → Blk w' g t cs
theorem TyR.refl (w : World) : TyR w w := fun _ _ _ h _ _ _ => h
theorem TyR.trans {a b c : World} (h : TyR a b) (k : TyR b c) : TyR a c := fun g t cs hb h1 h2 h3 => k g t cs (h g t cs hb h1 h2 h3) h1 h2 h3
theorem TyR.of_below {w w' : World} (h : Below w.heap.size w w') : TyR w w' := fun g _ _ hb _ _ _ => (h.block g hb.lt).trans hb
theorem TyR.set {w : World} {p i : Nat} {t : TypeId} {cs : Array Value} (hp : Blk w p t cs) (ht : t = tRk ∨ t = tTx ∨ t = tTn) (v : Value) : TyR w (w.setCell ⟨p, i, none⟩ v) := fun g t2 _ hb h1 h2 h3 => hb.other (fun e => by
  subst e
  have : t2 ≠ t := by rcases ht with rfl | rfl | rfl <;> assumption
  exact hb.ne hp this rfl) v
theorem TyR.grown {w w' : World} {base n s : Nat} {e : TypeId} {v : Value} {xs : List Value} (ho : w.ownsRow base e s v n xs) (he : e = tTx ∨ e = tTn) (hg : w.grownBy w' v.ownBlock) : TyR w w' := fun g t _ hb _ h2 h3 => hb.grown hg (own_block_ne ho hb (by rcases he with rfl | rfl <;> assumption))
theorem TyR.alloc (w : World) (o : Obj) : TyR w (w.alloc o) := fun _ _ _ hb _ _ _ => hb.alloc o
theorem TyR.drew {w w' : World} (h : TyR w w') : TyR w w'.drew := h
/-- The program's disk stands where the document's alone turns. -/
theorem DkAt.tyR {w w' : World} {base p B : Nat} {V : Nat → Value} {D : Dk} (h : DkAt w base p B V D) (hk : TyR w w') : DkAt w' base p B V D := by
  obtain ⟨cs, hb, hz⟩ := h.se
  have hb' := hk B _ cs hb (by decide) (by decide) (by decide)
  exact ⟨h.hp, h.hB, hk p _ _ h.dk (by decide) (by decide) (by decide), ⟨cs, hb', hz⟩, fun i hi => rangeAt_block (h.row i hi) (show w'.heap[B]? = w.heap[B]? from by unfold Blk at hb hb'; rw [hb, hb']),
    fun i hi => own_stands (h.own i hi) (fun g cs _ hb => hk g _ cs hb (by decide) (by decide) (by decide)), h.sep, h.szd, h.szw, h.n1, h.n2, h.nx⟩

/-! What each call comes to. -/
def stepQ (R : Rk) : Rk × Int := if R.down = true then (R, 11) else if R.fuse = 0 then ({ R with fuse := -1, down := true }, 11) else ({ R with fuse := if 0 < R.fuse then R.fuse - 1 else R.fuse }, 0)
def hasQ (R : Rk) (a : Int) : Bool := decide (0 ≤ a) && decide (a < R.now.length)
def nowQ (R : Rk) (i : Nat) : ByteArray := (R.now[i]?).getD ⟨#[]⟩
def readQ (R : Rk) (a : Int) : ByteArray × Int := if R.down = true then (⟨#[]⟩, 11) else if hasQ R a = true then (nowQ R a.toNat, 0) else (⟨#[]⟩, 1)
def writeQ (R : Rk) (a : Int) (s : ByteArray) : Rk × Int :=
  if hasQ R a = false ∨ 340 < s.size then (R, 1)
  else if (stepQ R).2 ≠ 0 then stepQ R
  else ({ (stepQ R).1 with now := R.now.set a.toNat (padB s), wait := R.wait ++ [(a.toNat, padB s)] }, 0)
def flushQ (R : Rk) : Rk × Int := if (stepQ R).2 ≠ 0 then stepQ R else ({ (stepQ R).1 with kept := R.now, wait := [] }, 0)
/-- What of the writes that wait is kept, the first j of them. -/
def keptL (keep : Nat) (kept : List ByteArray) (wait : TN) : Nat → List ByteArray
  | 0 => kept
  | j + 1 => match wait[j]? with
    | some x => if keep.testBit (j % 64) then (keptL keep kept wait j).set x.1 x.2 else keptL keep kept wait j
    | none => keptL keep kept wait j
def keptQ (keep : Nat) (R : Rk) (j : Nat) : List ByteArray := keptL keep R.kept R.wait j
def restartQ (keep : Nat) (R : Rk) : Rk := ⟨keptQ keep R R.wait.length, keptQ keep R R.wait.length, [], -1, false⟩

theorem u8_parts : ∃ i, Try.prog.info? 5 = some i ∧ i.zero = some (.int .u8 0) ∧ i.size = 1 ∧ i.bytes = 1 := by
  have h : (Try.prog.info? 5).map (fun i => (i.zero, i.size, i.bytes)) = some (some (.int .u8 0), 1, 1) := by kernel_rfl
  cases e : Try.prog.info? 5 with
  | none => rw [e] at h; cases h
  | some i =>
    rw [e] at h
    simp only [Option.map_some, Option.some.injEq, Prod.mk.injEq] at h
    exact ⟨i, rfl, h.1, h.2.1, h.2.2⟩
def noughtB (n : Nat) : ByteArray := ⟨Array.replicate n 0⟩
set_option maxRecDepth 100000 in
set_option maxHeartbeats 1000000 in
theorem noughts_any (n : Nat) (w : World) (hn : n ≤ 340) :
    Calls Try.prog 59 #[.int .i64 n] w fun e w' => e = .returned (.string (noughtB n)) ∧ Below w.heap.size w w' := by
  obtain ⟨i, hi, hz, hsz, hby⟩ := u8_parts
  have hmk := run_make (P := Try.prog) w 107 5 i (.int .u8 0) Try.underlying107 hi hz .i64 .i64 n n (by omega) (by omega) (by rw [hby]; omega) (by omega)
  rw [hsz, show ((n : Int)).toNat = n from rfl, Nat.mul_one] at hmk
  have hcv := run_convert_bytes_back (P := Try.prog) (w.alloc (.cells (madeCells (Value.int .u8 0).cells n) 5)) 107 9 5 ⟨w.heap.size, 0, none⟩ n (List.replicate n 0) Try.underlying107 Try.underlying5 Try.underlying9 (fun j hj => by
    have hj' : j < n := by simpa using hj
    rw [Go.WideShapes.add_plain, Nat.zero_add, (Blk.new w 5 _).cell, Array.getElem?_eq_getElem (by rw [size_madeCells]; exact hj')]
    simp [madeCells, Value.cells, Nat.mod_one])
  rw [List.length_replicate] at hcv
  rw [show (⟨(List.replicate n (0 : UInt8)).toArray⟩ : ByteArray) = noughtB n by simp [noughtB]] at hcv
  have HB := Lib.hid (show Below w.heap.size w (w.alloc (.cells (madeCells (Value.int .u8 0).cells n) 5)) from (Below.refl _ _).alloc (Nat.le_refl _) _)
  clear hi hz hsz hby
  generalize madeCells (Value.int .u8 0).cells n = mc at *
  go_enter Try.func59, Try.ntmps59
  go_wp2
  go_ret
  exact ⟨rfl, HB.out⟩

theorem RkAt.struct {w w' : World} {base q : Nat} {VK VN VW : Value} {R : Rk} (h : RkAt w base q VK VN VW R) (fuse : Int) (down : Bool)
    (hd : Blk w' q tRk #[VK, VN, VW, .int .i64 fuse, .bool down]) (hu : Upd w w' (fun k => k = q)) : RkAt w' base q VK VN VW { R with fuse := fuse, down := down } :=
  ⟨h.hq, hd, own_stands h.kept (fun g cs _ hb => hb.upd hu (fun e => by subst e; exact hb.ne h.st (by decide) rfl)), own_stands h.now (fun g cs _ hb => hb.upd hu (fun e => by subst e; exact hb.ne h.st (by decide) rfl)),
    own_stands h.wait (fun g cs _ hb => hb.upd hu (fun e => by subst e; exact hb.ne h.st (by decide) rfl)), h.sep⟩
theorem TyR.of_upd {w w' : World} {q : Nat} {cs : Array Value} (hq : Blk w q tRk cs) (h : Upd w w' (fun k => k = q)) : TyR w w' := fun g _ _ hb h1 _ _ => (h.block g hb.lt (fun e => by subst e; exact hb.ne hq h1 rfl)).trans hb

set_option maxRecDepth 100000 in
theorem stepQ_any (base q : Nat) (VK VN VW : Value) (R : Rk) (w : World) (h : RkAt w base q VK VN VW R) (hl : -1 ≤ R.fuse ∧ R.fuse ≤ 9223372036854775807) :
    Calls Try.prog 63 #[ptr q] w fun e w' => e = .returned (.int .i64 (stepQ R).2) ∧ RkAt w' base q VK VN VW (stepQ R).1 ∧ Upd w w' (fun k => k = q) := by
  obtain ⟨kept, now, wait, fuse, dn⟩ := R
  dsimp only at hl
  have c3 : w.cell? ⟨q, 3, none⟩ = some (.int .i64 fuse) := h.st.cell 3
  have c4 : w.cell? ⟨q, 4, none⟩ = some (.bool dn) := h.st.cell 4
  have f3 := h.st.free 3
  have f4 := h.st.free 4
  have HD := Lib.hid h
  obtain ⟨hl1, hl2⟩ := hl
  unfold stepQ
  dsimp only
  clear h
  cases dn with
  | true =>
    rw [if_pos rfl]
    go_enter Try.func63, Try.ntmps63
    go_wp2
    go_ret
    exact ⟨rfl, HD.out, Upd.refl _ _⟩
  | false =>
    rw [if_neg (by simp)]
    by_cases h0 : fuse = 0
    · subst h0
      rw [if_pos rfl]
      have hb4 := HD.out.st.set 4 (.bool true)
      have hb3 := hb4.set 3 (.int .i64 (-1))
      have c3' : (w.setCell ⟨q, 4, none⟩ (.bool true)).cell? ⟨q, 3, none⟩ = some (.int .i64 0) := hb4.cell 3
      have f3' := hb4.free 3
      have HU := Lib.hid ((upd_setp (w := w) (p := q) (i := 4) (.bool true)).set (b := q) (i := 3) (.inr rfl) (.int .i64 (-1)))
      have HB := Lib.hid hb3
      clear hb3 hb4
      go_enter Try.func63, Try.ntmps63
      go_wp2
      go_ret
      exact ⟨rfl, HD.out.struct _ _ HB.out HU.out, HU.out⟩
    · rw [if_neg h0]
      have e0 : (fuse == 0) = false := by rw [beq_eq_false_iff_ne]; exact h0
      by_cases hp : 0 < fuse
      · rw [if_pos hp]
        have HU := Lib.hid (upd_setp (w := w) (p := q) (i := 3) (.int .i64 (fuse - 1)))
        have HB := Lib.hid (HD.out.st.set 3 (.int .i64 (fuse - 1)))
        clear h0
        go_enter Try.func63, Try.ntmps63
        go_wp2
        go_ret
        exact ⟨rfl, HD.out.struct _ _ HB.out HU.out, HU.out⟩
      · rw [if_neg hp]
        have e1 : decide (0 < fuse) = false := decide_eq_false hp
        clear h0
        go_enter Try.func63, Try.ntmps63
        go_wp2
        go_ret
        exact ⟨rfl, HD.out, Upd.refl _ _⟩

theorem own_addr {w : World} {base : Nat} {e : TypeId} {s : Nat} {v : Value} {n : Nat} {xs : List Value} (h : w.ownsRow base e s v n xs) (hn : 0 < n) : ∃ g c, v = .slice (some ⟨g, 0, none⟩) n c ∧ n ≤ c ∧ c ≤ maxLen := by
  rcases h.2 with ⟨_, h⟩ | ⟨g, cap, cur, e, _, _, h1, h2, _⟩
  · omega
  · exact ⟨g, cap, e, h1, h2⟩
theorem own_cell {w : World} {base : Nat} {e : TypeId} {s : Nat} {n g c : Nat} {xs : List Value} (h : w.ownsRow base e s (.slice (some ⟨g, 0, none⟩) n c) n xs) {j : Nat} {u : Value} (hj : xs[j]? = some u) : w.cell? ⟨g, j, none⟩ = some u := by
  have := h.cells (g := g) rfl j u hj
  rwa [Go.WideShapes.add_plain, Nat.zero_add] at this

set_option maxRecDepth 100000 in
theorem readQ_any (base q : Nat) (VK VN VW : Value) (R : Rk) (a : Int) (w : World) (h : RkAt w base q VK VN VW R) (hn : R.now.length ≤ 120) :
    Calls Try.prog 21 #[ptr q, .int .i64 a] w fun e w' => e = .returned (.tuple #[.string (readQ R a).1, .int .i64 (readQ R a).2]) ∧ w = w' := by
  have c4 : w.cell? ⟨q, 4, none⟩ = some (.bool R.down) := h.st.cell 4
  have c1 : w.cell? ⟨q, 1, none⟩ = some VN := h.st.cell 1
  have ho := h.now
  unfold readQ hasQ
  obtain ⟨n, hnn⟩ : ∃ n, R.now.length = n := ⟨_, rfl⟩
  rw [hnn] at ho hn ⊢
  obtain ⟨A, c, rfl⟩ := own_shape ho
  cases hdn : R.down with
  | true =>
    rw [hdn] at c4
    rw [if_pos rfl]
    clear h hdn ho hnn
    go_enter Try.func21, Try.ntmps21
    go_wp2
    go_ret2
    exact ⟨rfl, rfl⟩
  | false =>
    rw [hdn] at c4
    rw [if_neg (by simp)]
    by_cases h0 : a < 0
    · rw [if_neg (by rw [decide_eq_false (show ¬ 0 ≤ a by omega)]; simp)]
      have d0 : decide (a < 0) = true := decide_eq_true h0
      clear h hdn ho hnn
      go_enter Try.func21, Try.ntmps21
      go_wp2
      go_ret2
      exact ⟨rfl, rfl⟩
    · have d0 : decide (a < 0) = false := decide_eq_false h0
      by_cases h1 : a < n
      · rw [if_pos (by rw [decide_eq_true (show 0 ≤ a by omega), decide_eq_true h1]; rfl)]
        obtain ⟨k, rfl⟩ : ∃ k : Nat, a = k := ⟨a.toNat, by omega⟩
        have hk : k < n := by omega
        have d1 : decide ((n : Int) ≤ (k : Int)) = false := decide_eq_false (by omega)
        have d1' : decide (n ≤ k) = false := decide_eq_false (by omega)
        obtain ⟨g, c', e, _, _⟩ := own_addr ho (by omega)
        injection e with e1 e2 e3
        subst e1 e3
        have hx : R.now[k]? = some (nowQ R k) := by unfold nowQ; rw [List.getElem?_eq_getElem (by omega)]; rfl
        have hcl : w.cell? ⟨g, k, none⟩ = some (.string (nowQ R k)) := own_cell ho (by unfold txC; rw [List.getElem?_map, hx]; rfl)
        rw [show ((k : Int)).toNat = k from rfl]
        clear h hdn ho hnn hx
        generalize nowQ R k = s at *
        go_enter Try.func21, Try.ntmps21
        go_wp2
        go_ret2
        exact ⟨rfl, rfl⟩
      · rw [if_neg (by rw [decide_eq_false h1]; simp)]
        have d1 : decide ((n : Int) ≤ a) = true := decide_eq_true (by omega)
        clear h hdn ho hnn
        go_enter Try.func21, Try.ntmps21
        go_wp2
        go_ret2
        exact ⟨rfl, rfl⟩
end Go.Proofs.Ytgkenknplepmeaa
