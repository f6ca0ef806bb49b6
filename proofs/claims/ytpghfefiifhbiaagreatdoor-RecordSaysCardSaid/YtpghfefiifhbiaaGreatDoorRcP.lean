/-
  WALKS: the reader of package record: fail, expect, number, text: what each gives of what is left, and what is left behind it.
-/
import Derived.Test.YtpghfefiifhbiaaGreatDoorRcB
import Derived.Test.YtpghfefiifhbiaaGreatDoorRd
import Derived.Shelf.Strings.SlTrimAscii
import Derived.Lib.SmallJoins
namespace Go.Proofs.YtpghfefiifhbiaaGreatDoor
open Go.RowKit Go.Sort

abbrev tRd : TypeId := 63
/-- What is left; none: something was wrong. -/
abbrev St := Option Bs
def stV (st : St) : Array Value := match st with
  | some s => #[.string (ba s), .bool false]
  | none => #[.string ⟨#[]⟩, .bool true]
def rest (st : St) : Bs := st.getD []
/-- The reader at block b. -/
def In (w : World) (b : Nat) (st : St) : Prop := Blk w b tRd (stV st)
abbrev One (b : Nat) : Nat → Prop := fun k => k = b
theorem In.lt {w : World} {b : Nat} {st : St} (h : In w b st) : b < w.heap.size := Blk.lt h
theorem stV0 (st : St) : (stV st)[0]? = some (.string (ba (rest st))) := by cases st <;> rfl
theorem In.cell0 {w : World} {b : Nat} {st : St} (h : In w b st) : w.cell? ⟨b, 0, none⟩ = some (.string (ba (rest st))) := (Blk.cell h 0).trans (stV0 st)
theorem In.cell1 {w : World} {b : Nat} {st : St} (h : In w b st) : w.cell? ⟨b, 1, none⟩ = some (.bool st.isNone) := (Blk.cell h 1).trans (by cases st <;> rfl)
theorem In.free {w : World} {b : Nat} {st : St} (h : In w b st) (i : Nat) : w.frozen? ⟨b, i, none⟩ = false := Blk.free h i
theorem In.upd {w w' : World} {b : Nat} {st : St} (h : In w b st) (hb : Below w.heap.size w w') : In w' b st := (hb.block b h.lt).trans h
theorem Upd.of_below {w w' : World} (h : Below w.heap.size w w') (S : Nat → Prop) : Upd w w' S := ⟨h.os, h.tape, h.output, h.size, fun k hk _ => h.block k hk⟩
theorem Upd.setOne {w w' : World} {b : Nat} (h : Upd w w' (One b)) (i : Nat) (v : Value) : Upd w (w'.setCell ⟨b, i, none⟩ v) (One b) := h.set (.inr rfl) v
/-- What is left is stored anew. -/
theorem In.set {w : World} {b : Nat} {s t : Bs} (h : In w b (some s)) : In (w.setCell ⟨b, 0, none⟩ (.string (ba t))) b (some t) := Blk.set h 0 _
theorem In.set_none {w : World} {b : Nat} (h : In w b none) : In (w.setCell ⟨b, 0, none⟩ (.string ⟨#[]⟩)) b none := Blk.set h 0 _

set_option maxRecDepth 100000 in
set_option maxHeartbeats 1000000 in
theorem fail_any (b : Nat) (st : St) (w : World) (h : In w b st) :
    Calls Tryz.prog 46 #[ptr b] w fun e w' => e = .returned (.tuple #[]) ∧ In w' b none ∧ Upd w w' (One b) := by
  have c0 := h.cell0
  have c1 := h.cell1
  have f0 := h.free 0
  have f1 := h.free 1
  have H := Lib.hid h
  clear h
  unfold ptr
  go_enter Tryz.func46, Tryz.ntmps46
  go_wp2
  go_end0
  refine ⟨rfl, ?_, ((Upd.refl w (One b)).setOne 0 _).setOne 1 _⟩
  have := Blk.set (Blk.set H.out 0 (.string ⟨#[]⟩)) 1 (.bool true)
  unfold In
  cases st <;> exact this

theorem pre_one (s : Bs) (c : UInt8) : Lib.hasPrefix s [c] = (expO c s).isSome ∧ ((expO c s).isSome = true → (expO c s) = some (Lib.trimPrefix s [c])) := by
  unfold Lib.trimPrefix Lib.hasPrefix
  cases s with
  | nil => simp [expO]
  | cons x s =>
    by_cases h : x = c
    · subst h; simp [expO]
    · have h2 : ¬ c = x := fun e => h e.symm
      simp [expO, h, h2, List.isPrefixOf]
set_option maxRecDepth 100000 in
set_option maxHeartbeats 1000000 in
theorem expect_any (b : Nat) (c : UInt8) (st : St) (w : World) (h : In w b st) :
    Calls Tryz.prog 32 #[ptr b, .string ⟨#[c]⟩] w fun e w' => e = .returned (.tuple #[]) ∧ In w' b (st.bind (expO c)) ∧ Upd w w' (One b) := by
  have c0 := h.cell0
  have f0 := h.free 0
  have H := Lib.hid h
  have HF := Lib.hid (fail_any b st w h)
  have HP := Lib.hid (pre_one (rest st) c)
  clear h
  unfold ptr at *
  go_enter Tryz.func32, Tryz.ntmps32
  go_wp2_with fail
  refine (Tryz.strings_CutPrefix (ba (rest st)) ⟨#[c]⟩ w).mono ?_
  rintro e w1 ⟨rfl, rfl⟩
  rw [ba_data, show (⟨#[c]⟩ : ByteArray).data.toList = [c] from rfl, HP.out.1]
  cases hp : (expO c (rest st)).isSome with
  | false =>
    go_wp2_with fail
    refine HF.out.mono ?_
    rintro e w2 ⟨rfl, hi, hu⟩
    have HI := Lib.hid hi
    have HU := Lib.hid hu
    clear hi hu
    go_wp2
    refine bodyPost_ret (results_none rfl _ _ _) rfl ?_
    refine ⟨rfl, ?_, HU.out⟩
    have e1 : st.bind (expO c) = none := by
      cases st with
      | none => rfl
      | some s => simpa [rest] using hp
    rw [e1]
    exact HI.out
  | true =>
    have he := HP.out.2 hp
    have HE := Lib.hid he
    clear he
    have HP2 := Lib.hid hp
    clear hp
    go_wp2
    go_end0
    cases st with
    | none => exact absurd HP2.out (by simp [rest, expO])
    | some s =>
      refine ⟨rfl, ?_, (Upd.refl w1 (One b)).setOne 0 _⟩
      have e1 : (some s : St).bind (expO c) = some (Lib.trimPrefix s [c]) := HE.out
      rw [e1]
      exact H.out.set (t := Lib.trimPrefix s [c])

theorem dg_fin : ∀ n : Fin 256, ([48, 49, 50, 51, 52, 53, 54, 55, 56, 57] : Bs).contains (UInt8.ofNat n.val) = dg (UInt8.ofNat n.val) := by decide +kernel
theorem dg_has (c : UInt8) : ([48, 49, 50, 51, 52, 53, 54, 55, 56, 57] : Bs).contains c = dg c := by
  have := dg_fin ⟨c.toNat, c.toNat_lt⟩
  simpa using this
theorem trim_dg (s : Bs) : Lib.trimLeftS s [48, 49, 50, 51, 52, 53, 54, 55, 56, 57] = s.dropWhile dg := by
  unfold Lib.trimLeftS
  congr 1
  funext c
  exact dg_has c
set_option maxRecDepth 100000 in
theorem trimDg_any (s : Bs) (w : World) :
    Calls Tryz.prog 44 #[.string (ba s), .string ⟨#[48, 49, 50, 51, 52, 53, 54, 55, 56, 57]⟩] w fun e w' => e = .returned (.string (ba (s.dropWhile dg))) ∧ Below w.heap.size w w' := by
  refine (Any.strings_TrimLeft_laid Tryz.lays161 (by kernel_rfl) (ba s) ⟨#[48, 49, 50, 51, 52, 53, 54, 55, 56, 57]⟩ w (by decide) (ascii_of_all (by decide))).mono ?_
  rintro e w' ⟨rfl, hb⟩
  rw [ba_data, show (⟨#[48, 49, 50, 51, 52, 53, 54, 55, 56, 57]⟩ : ByteArray).data.toList = [48, 49, 50, 51, 52, 53, 54, 55, 56, 57] from rfl, trim_dg]
  exact ⟨rfl, hb⟩
/-- strconv.Atoi of digits alone. -/
def AtV (d : Bs) (w : World) (e : Ending) (w' : World) : Prop :=
  (Below w.heap.size w w') ∧ ((d ≠ [] ∧ val d < 9223372036854775808 ∧ e = .returned (.tuple #[.int .i64 (val d), .nilIface])) ∨ ((d = [] ∨ 9223372036854775808 ≤ val d) ∧ ∃ k t v, 0 ≤ k ∧ e = .returned (.tuple #[.int .i64 k, .iface t (.pointer (some v))])))
theorem atoi_any (d : Bs) (w : World) (hE : Env w) (hd : ∀ c ∈ d, dg c = true) (hn : d.length ≤ 1000000) : Calls Tryz.prog 45 #[.string (ba d)] w (AtV d w) := by
  have hsz := ba_size d
  rcases atoi_dg hd with ⟨h1, h2⟩ | ⟨h1, h2, h3⟩ | ⟨h1, h2, h3⟩
  · obtain ⟨ev, hv, hev⟩ := hE.syn
    refine (Tryz.strconv_Atoi_syntax (ba d) (by omega) (by rw [ba_data]; exact h2) ev w hv hev).mono ?_
    rintro e w' ⟨N, rfl, _, _, hb⟩
    exact ⟨hb, .inr ⟨.inl h1, 0, _, _, by omega, rfl⟩⟩
  · refine (Tryz.strconv_Atoi_ok (ba d) (by omega) (val d) (by rw [ba_data]; exact h3) w).mono ?_
    rintro e w' ⟨rfl, hw⟩
    refine ⟨?_, .inl ⟨h1, h2, rfl⟩⟩
    rcases hw with rfl | ⟨t, rfl⟩
    · exact Below.refl _ _
    · exact Joins.below_bytesWorld _ _ _ _ (Nat.le_refl _)
  · obtain ⟨ev, hv, hev⟩ := hE.ran
    refine (Tryz.strconv_Atoi_range (ba d) (by omega) (by rw [ba_data]; exact h3) ev w hv hev).mono ?_
    rintro e w' ⟨N, rfl, _, _, hb⟩
    exact ⟨hb, .inr ⟨.inr h2, _, _, _, (by
      unfold Lib.atoiSat
      rw [ba_data]
      cases d with
      | nil => simp
      | cons c l =>
        have := dg_iff.1 (hd c (by simp))
        rw [if_neg (by simp; omega)]
        omega), rfl⟩⟩
end Go.Proofs.YtpghfefiifhbiaaGreatDoor
