/-
  WALKS: the document's reader of a record's text: word, number, text.
-/
import Derived.Test.YtpghfefiifhbiaaGreatDoorRcNa
import Derived.Test.YtpghfefiifhbiaaGreatDoorRcP
import Derived.Test.YtpghfefiifhbiaaGreatDoorRcF
import Derived.Test.YtpghfefiifhbiaaGreatDoorFind
import Derived.Lib.IndexBytes
namespace Go.Proofs.YtpghfefiifhbiaaGreatDoor
open Go.RowKit Go.Sort

abbrev tRq : TypeId := 69
/-- The document's reader at block b. -/
def Rq (w : World) (b : Nat) (s : Bs) (bad : Bool) : Prop := Blk w b tRq #[.string (ba s), .bool bad]
theorem find_word (s : Bs) (c : UInt8) : findR s [c] 0 = if c ∈ s then ((upB c s).length : Int) else -1 := by
  unfold findR
  rw [List.drop_zero, Lib.index_one, idx_up]
  split
  · rw [if_neg (by omega)]; omega
  · rw [if_pos rfl]
theorem up_tail {c : UInt8} {s : Bs} (h : c ∈ s) : s = upB c s ++ c :: s.drop ((upB c s).length + 1) := by
  rcases at_byte c s with ⟨a, b, rfl, ha⟩ | hn
  · rw [(up_app (b := b) ha).1]
    have : (a ++ c :: b).drop (a.length + 1) = b := by
      rw [show a ++ c :: b = (a ++ [c]) ++ b by simp]
      exact List.drop_left' (by simp)
    rw [this]
  · exact absurd h hn
theorem word_some {c : UInt8} {s : Bs} (h : c ∈ s) : wordO c s = some (upB c s, s.drop ((upB c s).length + 1)) := by
  have e := up_tail h
  have hn := up_not c s
  generalize upB c s = u at *
  generalize s.drop (u.length + 1) = v at *
  rw [e]
  exact word_at hn
/-- What a word's reading leaves. -/
def WoP (b : Nat) (c : UInt8) (s : Bs) (bad : Bool) (w : World) (e : Ending) (w' : World) : Prop :=
  Upd w w' (One b) ∧ match wordO c s with
    | some p => e = .returned (.string (ba p.1)) ∧ Rq w' b p.2 bad
    | none => e = .returned (.string ⟨#[]⟩) ∧ Rq w' b s true
set_option maxRecDepth 100000 in
set_option maxHeartbeats 2000000 in
theorem word_any (b : Nat) (c : UInt8) (s : Bs) (bad : Bool) (w : World) (h : Rq w b s bad) (hl : s.length ≤ 900000) :
    Calls Tryz.prog 37 #[ptr b, .string ⟨#[c]⟩] w (WoP b c s bad w) := by
  have c0 : w.cell? ⟨b, 0, none⟩ = some (.string (ba s)) := Blk.cell h 0
  have c1 : w.cell? ⟨b, 1, none⟩ = some (.bool bad) := Blk.cell h 1
  have f0 := Blk.free h 0
  have f1 := Blk.free h 1
  have H := Lib.hid h
  have hsz := ba_size s
  have HF := Lib.hid (find_any (ba s) ⟨#[c]⟩ 0 w (by show 1 ≤ 1; omega) (by show 1 ≤ 1000; omega) (Nat.zero_le _) (by omega))
  rw [ba_data, show (⟨#[c]⟩ : ByteArray).data.toList = [c] from rfl, find_word, show ((0 : Nat) : Int) = 0 from rfl] at HF
  unfold ptr at *
  clear h
  by_cases hc : c ∈ s
  · rw [if_pos hc] at HF
    have HW := Lib.hid (word_some hc)
    obtain ⟨k, hk⟩ : ∃ k, k = (upB c s).length := ⟨_, rfl⟩
    have hkl : k < s.length := by
      have e := congrArg List.length (up_tail hc)
      rw [List.length_append, List.length_cons] at e
      omega
    have HTK := Lib.hid ((ba_take s k).trans (show ba (s.take k) = ba (upB c s) by
      have e := up_tail hc
      generalize upB c s = u at *
      generalize s.drop (u.length + 1) = v at *
      rw [e, hk, List.take_left]))
    have HDR := Lib.hid (ba_drop s (k + 1))
    rw [← hk] at HF HW
    have hk1 : (k : Int) + 1 ≤ ((ba s).size : Int) := by omega
    have hk2 : (k : Int) ≤ ((ba s).size : Int) := by omega
    have hk3 : ((k : Int) + 1).toNat = k + 1 := by omega
    have d0 : decide ((k : Int) < 0) = false := decide_eq_false (by omega)
    clear hc hk hsz
    go_enter Tryz.func37, Tryz.ntmps37
    go_wp2_with fail
    refine HF.out.mono ?_
    rintro e w2 ⟨rfl, rfl⟩
    go_wp2
    go_ret
    rw [HTK.out, HDR.out]
    unfold WoP
    rw [HW.out]
    exact ⟨(Upd.refl _ _).setOne 0 _, rfl, Blk.set H.out 0 _⟩
  · rw [if_neg hc] at HF
    have HW := Lib.hid (word_none hc)
    clear hc hsz
    go_enter Tryz.func37, Tryz.ntmps37
    go_wp2_with fail
    refine HF.out.mono ?_
    rintro e w2 ⟨rfl, rfl⟩
    go_wp2
    go_ret
    unfold WoP
    rw [HW.out]
    exact ⟨(Upd.refl _ _).setOne 1 _, rfl, Blk.set H.out 1 _⟩

/-- A step of the document's reader, whatever came before: where nothing was wrong and there is something, it is that; else something is wrong behind it. -/
def NqP (b : Nat) (o : Option (Nat × Bs)) (N most : Nat) (bad : Bool) (w : World) (e : Ending) (w' : World) : Prop :=
  Upd w w' (One b) ∧ ∃ (n : Nat) (s' : Bs) (bad' : Bool), e = .returned (.int .i64 n) ∧ n ≤ most ∧ Rq w' b s' bad' ∧ s'.length ≤ N ∧ (bad = true → bad' = true) ∧ (bad = false → match o with
    | some p => bad' = false ∧ n = p.1 ∧ s' = p.2
    | none => bad' = true)
theorem word_len {c : UInt8} {s : Bs} {p : Bs × Bs} (h : wordO c s = some p) : p.1.length ≤ s.length ∧ p.2.length ≤ s.length := by
  by_cases hc : c ∈ s
  · rw [word_some hc] at h
    injection h with h
    subst h
    have e := congrArg List.length (up_tail hc)
    rw [List.length_append, List.length_cons] at e
    exact ⟨by show (upB c s).length ≤ _; omega, by show (s.drop _).length ≤ _; rw [List.length_drop]; omega⟩
  · rw [word_none hc] at h; cases h
set_option maxRecDepth 100000 in
set_option maxHeartbeats 2000000 in
theorem rnumber_any (b most : Nat) (c : UInt8) (s : Bs) (bad : Bool) (w : World) (h : Rq w b s bad) (hl : s.length ≤ 900000) (hm : most ≤ 1000) :
    Calls Tryz.prog 35 #[ptr b, .string ⟨#[c]⟩, .int .i64 most] w (NqP b (rnumO c most s) s.length most bad w) := by
  have HW := Lib.hid (word_any b c s bad w h hl)
  unfold ptr at *
  go_enter Tryz.func35, Tryz.ntmps35
  go_wp2_with fail
  refine HW.out.mono ?_
  rintro e w2 ⟨hu, hp⟩
  have HU := Lib.hid hu
  cases hwo : wordO c s with
  | none =>
    rw [hwo] at hp
    obtain ⟨rfl, hq⟩ := hp
    have H := Lib.hid hq
    have hno : rnumO c most s = none := by unfold rnumO; rw [hwo]; rfl
    have HNO := Lib.hid hno
    have HN := Lib.hid (natural_any ⟨#[]⟩ most w2 hm (by decide))
    rw [show natO most (⟨#[]⟩ : ByteArray).data.toList = none from nat_len hm (.inl (by decide)), show naV none = -1 from rfl] at HN
    have c1 : w2.cell? ⟨b, 1, none⟩ = some (.bool true) := Blk.cell hq 1
    have f1 := Blk.free hq 1
    clear hu hwo hno hq HW
    go_wp2_with fail
    refine HN.out.mono ?_
    rintro e w3 ⟨rfl, rfl⟩
    go_wp2
    go_ret
    refine ⟨HU.out.setOne 1 _, 0, s, true, rfl, Nat.zero_le _, Blk.set H.out 1 _, Nat.le_refl _, fun _ => rfl, fun _ => ?_⟩
    rw [HNO.out]
  | some p =>
    rw [hwo] at hp
    obtain ⟨rfl, hq⟩ := hp
    have H := Lib.hid hq
    have hpl := word_len hwo
    have HN := Lib.hid (natural_any (ba p.1) most w2 hm (by rw [ba_size]; omega))
    rw [ba_data] at HN
    have hno : rnumO c most s = (natO most p.1).bind fun n => some (n, p.2) := by unfold rnumO; rw [hwo]; rfl
    have HNO := Lib.hid hno
    have c1 : w2.cell? ⟨b, 1, none⟩ = some (.bool bad) := Blk.cell hq 1
    have f1 := Blk.free hq 1
    clear hu hwo hno hq HW
    cases hna : natO most p.1 with
    | none =>
      rw [hna, show naV none = -1 from rfl] at HN
      have hno2 := HNO.out
      rw [hna] at hno2
      have HNO2 := Lib.hid hno2
      clear hna hno2 HNO
      go_wp2_with fail
      refine HN.out.mono ?_
      rintro e w3 ⟨rfl, rfl⟩
      go_wp2
      go_ret
      refine ⟨HU.out.setOne 1 _, 0, p.2, true, rfl, Nat.zero_le _, Blk.set H.out 1 _, hpl.2, fun _ => rfl, fun _ => ?_⟩
      rw [HNO2.out]
      rfl
    | some n =>
      have hle := (natO_some hna).2
      rw [hna, show naV (some n) = (n : Int) from rfl] at HN
      have hno2 := HNO.out
      rw [hna] at hno2
      have HNO2 := Lib.hid hno2
      clear hna hno2 HNO
      have d0 : decide ((n : Int) < 0) = false := decide_eq_false (by omega)
      go_wp2_with fail
      refine HN.out.mono ?_
      rintro e w3 ⟨rfl, rfl⟩
      go_wp2
      go_ret
      refine ⟨HU.out, n, p.2, bad, rfl, hle, H.out, hpl.2, fun h => h, fun hb => ?_⟩
      rw [HNO2.out]
      exact ⟨hb, rfl, rfl⟩
end Go.Proofs.YtpghfefiifhbiaaGreatDoor
