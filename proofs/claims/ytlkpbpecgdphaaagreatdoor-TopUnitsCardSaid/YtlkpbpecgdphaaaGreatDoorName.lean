/-
  WALKS: hammerpondref.NameMay: what it gives, for every name.
-/
import Derived.Test.YtlkpbpecgdphaaaGreatDoorReplace
import Derived.Test.YtlkpbpecgdphaaaGreatDoorShelf
import Derived.Test.YtlkpbpecgdphaaaGreatDoorMax
import Derived.Lib.FieldsP
import Derived.Test.YtlkpbpecgdphaaaGreatDoorRows
import Derived.WalkKit
import Derived.WalkSpells
import Derived.WalkLawsBesides
import Derived.Deep.QuietTactic
import Derived.BigQuiet
import Derived.Lib.Hide
namespace Go.Proofs.YtlkpbpecgdphaaaGreatDoor
open Go.RowKit

def headT (l : List ByteArray) : ByteArray := l.headD ⟨#[]⟩
def joinB (l : List ByteArray) : Bs := Lib.join (l.map (·.data.toList)) [32]
/-- What expand.Auto gives. -/
def autoT (s : ByteArray) (lt ln : List ByteArray) (stem : ByteArray) : Bs := autoL (headT lt) (headT ln) (ba (joinB ln)) stem s.data.toList

set_option maxRecDepth 100000 in
theorem first_any (A : Option Addr) (n c : Nat) (l : List ByteArray) (w : World) (h : RdS w w.heap.size A n c l) :
    Calls Tryz.prog 158 #[.slice A n c] w fun e w' => e = .returned (.string (headT l)) ∧ w = w' := by
  by_cases h0 : n = 0
  · subst h0
    obtain rfl : l = [] := List.eq_nil_of_length_eq_zero h.1
    clear h
    go_enter Tryz.func158, Tryz.ntmps158
    go_wp2
    go_ret
    exact ⟨rfl, rfl⟩
  · obtain ⟨x, r, rfl⟩ : ∃ x r, l = x :: r := by
      rcases l with _ | ⟨x, r⟩
      · exact absurd h.1.symm h0
      · exact ⟨x, r, rfl⟩
    obtain ⟨b, off, rfl, hb, hc⟩ := h.at_ (i := 0) (f := x) rfl
    have hc0 : w.cell? ⟨b, off, none⟩ = some (.string x) := hc
    have hn : ((n : Int) == 0) = false := by rw [beq_eq_false_iff_ne]; omega
    have hp : (0 : Int) < (n : Int) := by omega
    have hp2 : 0 < n := by omega
    clear h hc h0
    go_enter Tryz.func158, Tryz.ntmps158
    go_wp2
    go_ret
    exact ⟨rfl, rfl⟩
theorem joinS_any (A : Option Addr) (n c : Nat) (l : List ByteArray) (w : World) (h : RdS w w.heap.size A n c l) (hn : n ≤ 1000000) (hl : (joinB l).length ≤ 1000000) :
    Calls Tryz.prog 136 #[.slice A n c, .string ⟨#[32]⟩] w fun e w' => e = .returned (.string (ba (joinB l))) ∧ Below w.heap.size w w' := by
  by_cases h0 : n = 0
  · subst h0
    obtain rfl : l = [] := List.eq_nil_of_length_eq_zero h.1
    refine (Tryz.strings_Join_none A c ⟨#[32]⟩ w).mono ?_
    rintro e w' ⟨rfl, rfl⟩
    exact ⟨rfl, Below.refl _ _⟩
  · obtain ⟨b, off, rfl, hb, hc⟩ := h.2.2.2 (by omega)
    have hl1 := h.1
    subst hl1
    exact Tryz.strings_Join b off c l ⟨#[32]⟩ w hc hb (by omega) h.2.1 (by show (joinB l).length ≤ _; omega)

set_option maxRecDepth 100000 in
set_option maxHeartbeats 1600000 in
theorem auto_any (s stem : ByteArray) (At An : Option Addr) (nt ct nn cn : Nat) (lt ln : List ByteArray) (w : World) (ht : RdS w w.heap.size At nt ct lt) (hn : RdS w w.heap.size An nn cn ln)
    (hnn : nn ≤ 1000000) (hs : s.size ≤ 1000000) (hj : (joinB ln).length ≤ 1000000) (hL : (autoT s lt ln stem).length ≤ 1000000000) :
    Calls Tryz.prog 131 #[.string s, .slice At nt ct, .slice An nn cn, .string stem] w fun e w' => e = .returned (.string (ba (autoT s lt ln stem))) ∧ Below w.heap.size w w' := by
  have HT := Lib.hid ht
  have HN := Lib.hid hn
  clear ht hn
  go_enter Tryz.func131, Tryz.ntmps131
  go_wp2_with fail
  refine (first_any At nt ct lt w HT.out).mono ?_
  rintro e w1 ⟨rfl, rfl⟩
  go_wp2_with fail
  refine (first_any An nn cn ln w HN.out).mono ?_
  rintro e w1 ⟨rfl, rfl⟩
  go_wp2_with fail
  refine (joinS_any An nn cn ln w HN.out hnn hj).mono ?_
  rintro e w1 ⟨rfl, hb1⟩
  have HB1 := Lib.hid hb1
  clear hb1
  go_wp2_with fail
  have hb2 : Below w1.heap.size w1 (w1.alloc (.cells #[.string ⟨#[36, 64]⟩, .string (headT lt), .string ⟨#[36, 60]⟩, .string (headT ln), .string ⟨#[36, 94]⟩, .string (ba (joinB ln)), .string ⟨#[36, 42]⟩, .string stem] 9)) := (Below.refl _ _).alloc (Nat.le_refl _) _
  have hr2 : RdS (w1.alloc (.cells #[.string ⟨#[36, 64]⟩, .string (headT lt), .string ⟨#[36, 60]⟩, .string (headT ln), .string ⟨#[36, 94]⟩, .string (ba (joinB ln)), .string ⟨#[36, 42]⟩, .string stem] 9)) (w1.heap.size + 1) (some ⟨w1.heap.size, 0, none⟩) 8 8 (keys4 (headT lt) (headT ln) (ba (joinB ln)) stem) := by
    refine ⟨rfl, Nat.le_refl _, by unfold maxLen; omega, fun _ => ⟨w1.heap.size, 0, rfl, by omega, fun j u hu => ?_⟩⟩
    have := (Blk.new w1 9 #[.string ⟨#[36, 64]⟩, .string (headT lt), .string ⟨#[36, 60]⟩, .string (headT ln), .string ⟨#[36, 94]⟩, .string (ba (joinB ln)), .string ⟨#[36, 42]⟩, .string stem]).cell j
    rw [Nat.zero_add, this]
    have e : (#[Value.string ⟨#[36, 64]⟩, .string (headT lt), .string ⟨#[36, 60]⟩, .string (headT ln), .string ⟨#[36, 94]⟩, .string (ba (joinB ln)), .string ⟨#[36, 42]⟩, .string stem] : Array Value)[j]? = ((keys4 (headT lt) (headT ln) (ba (joinB ln)) stem)[j]?).map Value.string := by
      rw [← List.getElem?_map, ← List.getElem?_toArray]; rfl
    rw [e, hu]
    rfl
  have hz2 : (w1.alloc (.cells #[.string ⟨#[36, 64]⟩, .string (headT lt), .string ⟨#[36, 60]⟩, .string (headT ln), .string ⟨#[36, 94]⟩, .string (ba (joinB ln)), .string ⟨#[36, 42]⟩, .string stem] 9)).heap.size = w1.heap.size + 1 := by simp
  rw [← hz2] at hr2
  have HB2 := Lib.hid (HB1.out.trans (hb2.mono HB1.out.size))
  have HR2 := Lib.hid hr2
  clear hb2 hr2 hz2
  generalize w1.alloc (.cells #[.string ⟨#[36, 64]⟩, .string (headT lt), .string ⟨#[36, 60]⟩, .string (headT ln), .string ⟨#[36, 94]⟩, .string (ba (joinB ln)), .string ⟨#[36, 42]⟩, .string stem] 9) = w2 at *
  refine (newrep_any _ 8 _ w2 HR2.out).mono ?_
  rintro e w3 ⟨R, c3, A3, rfl, hR, hblk, hr3, hA, hb3⟩
  have HB3 := Lib.hid (HB2.out.trans (hb3.mono HB2.out.size))
  have HC := Lib.hid (replacer_any R A3 c3 (headT lt) (headT ln) (ba (joinB ln)) stem s w3 hblk hr3 hA hs hL)
  have hRw : w.heap.size ≤ R := Nat.le_trans HB2.out.size hR
  clear hblk hr3 hA hb3
  go_wp2_with fail
  refine HC.out.mono ?_
  rintro e w4 ⟨rfl, hu4⟩
  have HB4 := Lib.hid (HB3.out.trans (hu4.below HB3.out.size (fun k e => by omega)))
  clear hu4
  go_wp2
  go_ret
  exact ⟨rfl, HB4.out⟩
end Go.Proofs.YtlkpbpecgdphaaaGreatDoor
namespace Go.Proofs.YtlkpbpecgdphaaaGreatDoor
open Go.RowKit

/-- What Stem comes to. -/
def stemR (p n : ByteArray) : ByteArray × Bool :=
  if (cutB p [37]).2.2 = true ∧ Lib.hasPrefix n.data.toList (cutB p [37]).1 = true ∧ Lib.hasSuffix n.data.toList (cutB p [37]).2.1 = true ∧ (cutB p [37]).1.length + (cutB p [37]).2.1.length < n.size then
    (n.extract (cutB p [37]).1.length (n.size - (cutB p [37]).2.1.length), true) else (⟨#[]⟩, false)
theorem suffix_len {s p : Bs} (h : Lib.hasSuffix s p = true) : p.length ≤ s.length := by
  rw [Lib.hasSuffix, List.isSuffixOf_iff_suffix] at h
  exact h.length_le
theorem prefix_len {s p : Bs} (h : Lib.hasPrefix s p = true) : p.length ≤ s.length := by
  rw [Lib.hasPrefix, List.isPrefixOf_iff_prefix] at h
  exact h.length_le

set_option maxHeartbeats 1000000 in
set_option maxRecDepth 100000 in
theorem stem_any (p n : ByteArray) (w : World) (hp : p.size ≤ 1000000) (hn : n.size ≤ 1000000) (hm : MaxOk w) :
    Calls Tryz.prog 132 #[.string p, .string n] w fun e w' => e = .returned (.tuple #[.string (stemR p n).1, .bool (stemR p n).2]) ∧ Below w.heap.size w w' := by
  have HM := Lib.hid hm
  clear hm
  obtain ⟨r, hr⟩ : ∃ r, r = stemR p n := ⟨_, rfl⟩
  rw [← hr]
  unfold stemR at hr
  have HR := Lib.hid hr
  clear hr
  go_enter Tryz.func132, Tryz.ntmps132
  go_wp2_with fail
  refine (cut_any p ⟨#[37]⟩ [37] rfl w hp HM.out).mono ?_
  rintro e w' ⟨k, rfl, rfl⟩
  have HB := Lib.hid (below_drewN w k)
  obtain ⟨w1, hw1⟩ : ∃ w1, w1 = w.drewN k := ⟨_, rfl⟩
  rw [← hw1] at HB ⊢
  clear hw1
  revert HR
  generalize cutB p [37] = c
  obtain ⟨a, b, f⟩ := c
  intro HR
  have ha := ba_size a
  have hb := ba_size b
  dsimp only at HR ⊢
  cases f with
  | false =>
    go_wp2
    go_ret2
    have e1 := HR.out
    rw [if_neg (by simp)] at e1
    exact ⟨by rw [e1]; rfl, HB.out⟩
  | true =>
    go_wp2_with fail
    refine (Tryz.strings_HasPrefix n (ba a) _).mono ?_
    rintro e w' ⟨rfl, rfl⟩
    rw [ba_data]
    cases hpf : Lib.hasPrefix n.data.toList a with
    | false =>
      go_wp2
      go_ret2
      have e1 := HR.out
      rw [if_neg (by simp [hpf])] at e1
      exact ⟨by rw [e1]; rfl, HB.out⟩
    | true =>
      have hpl := prefix_len hpf
      go_wp2_with fail
      refine (Tryz.strings_HasSuffix n (ba b) _ (by omega)).mono ?_
      rintro e w' ⟨rfl, rfl⟩
      rw [ba_data]
      cases hsf : Lib.hasSuffix n.data.toList b with
      | false =>
        go_wp2
        go_ret2
        have e1 := HR.out
        rw [if_neg (by simp [hsf])] at e1
        exact ⟨by rw [e1]; rfl, HB.out⟩
      | true =>
        have hsl := suffix_len hsf
        have hnl : n.data.toList.length = n.size := by simp
        rw [hnl] at hpl hsl
        obtain ⟨d, hd⟩ : ∃ d : Nat, d = n.size - b.length := ⟨_, rfl⟩
        have hw : ((n.size : Int) - ((ba b).size : Int) + 9223372036854775808) % 18446744073709551616 - 9223372036854775808 = (d : Int) := by omega
        by_cases hq : d ≤ a.length
        · have t1 : (d : Int) ≤ ((ba a).size : Int) := by omega
          go_wp2
          go_ret2
          have e1 := HR.out
          rw [if_neg (by omega)] at e1
          exact ⟨by rw [e1]; rfl, HB.out⟩
        · have t1 : decide ((d : Int) ≤ ((ba a).size : Int)) = false := decide_eq_false (by omega)
          go_wp2
          go_ret2
          have e1 := HR.out
          rw [if_pos (by refine ⟨by trivial, hpf, hsf, by omega⟩)] at e1
          exact ⟨by rw [e1]; first | rfl | simp [ha, hd], HB.out⟩
end Go.Proofs.YtlkpbpecgdphaaaGreatDoor
namespace Go.Proofs.YtlkpbpecgdphaaaGreatDoor
open Go Go.Lib

/-- The non-empty strings between blanks, behind a word that has begun. -/
def fldGo : Bs → Bs → List Bs
  | cur, [] => if cur = [] then [] else [cur]
  | cur, b :: l => if b = 32 then (if cur = [] then fldGo [] l else cur :: fldGo [] l) else fldGo (cur ++ [b]) l
def fieldsB (l : Bs) : List Bs := fldGo [] l
theorem fldGo_skip : ∀ (p cur l : Bs), (∀ b ∈ p, b ≠ 32) → fldGo cur (p ++ l) = fldGo (cur ++ p) l
  | [], cur, l, _ => by simp
  | b :: p, cur, l, h => by
    rw [List.cons_append, fldGo, if_neg (h b (by simp)), fldGo_skip p (cur ++ [b]) l (fun x hx => h x (by simp [hx]))]
    simp
def isBlank (r : Nat) : Bool := decide (r = 32)
theorem get_bang (s : ByteArray) (i : Nat) (h : i < s.size) : s.get! i = s[i] := by
  cases s
  simp only [ByteArray.get!, ByteArray.size] at h ⊢
  exact getElem!_pos _ i h
/-- A rune is a blank just where its first byte is one; no other byte of a rune is. -/
theorem dec_blank (s : ByteArray) (pos : Nat) (h : (s.get! pos).toNat = 32) : Utf8.decode s pos = (32, 1) := by
  unfold Utf8.decode
  simp [h]
theorem dec_other (s : ByteArray) (pos : Nat) (hp : pos < s.size) (h : (s.get! pos).toNat ≠ 32) :
    (Utf8.decode s pos).1 ≠ 32 ∧ 1 ≤ (Utf8.decode s pos).2 ∧ pos + (Utf8.decode s pos).2 ≤ s.size ∧ ∀ k, k < (Utf8.decode s pos).2 → (s.get! (pos + k)).toNat ≠ 32 := by
  have h0 : ∀ k, k < 1 → (s.get! (pos + k)).toNat ≠ 32 := fun k hk => by
    obtain rfl : k = 0 := by omega
    exact h
  unfold Utf8.decode
  simp only [Nat.add_zero, Utf8.runeError]
  split
  · exact ⟨h, by simp, by simp only; omega, by simpa using h0⟩
  · split
    · rename_i hc
      simp only [Bool.and_eq_true, beq_iff_eq, decide_eq_true_eq] at hc
      split
      · rename_i hg
        refine ⟨by simp only; omega, by simp, by simp only; omega, fun k hk => ?_⟩
        simp only at hk
        match k with
        | 0 => exact h
        | 1 => intro e; have := hc.2.2; omega
        | k + 2 => omega
      · exact ⟨by simp, by simp, by simp only; omega, by simpa using h0⟩
    · split
      · rename_i hc
        simp only [Bool.and_eq_true, beq_iff_eq, decide_eq_true_eq] at hc
        split
        · rename_i hg
          simp only [Bool.and_eq_true, decide_eq_true_eq, ge_iff_le] at hg
          refine ⟨by simp only; omega, by simp, by simp only; omega, fun k hk => ?_⟩
          simp only at hk
          match k with
          | 0 => exact h
          | 1 => intro e; have := hc.1.2.2; omega
          | 2 => intro e; have := hc.2.2; omega
          | k + 3 => omega
        · exact ⟨by simp, by simp, by simp only; omega, by simpa using h0⟩
      · split
        · rename_i hc
          simp only [Bool.and_eq_true, beq_iff_eq, decide_eq_true_eq] at hc
          split
          · rename_i hg
            simp only [Bool.and_eq_true, decide_eq_true_eq, ge_iff_le] at hg
            refine ⟨by simp only; omega, by simp, by simp only; omega, fun k hk => ?_⟩
            simp only at hk
            match k with
            | 0 => exact h
            | 1 => intro e; have := hc.1.1.2.2; omega
            | 2 => intro e; have := hc.1.2.2; omega
            | 3 => intro e; have := hc.2.2; omega
            | k + 4 => omega
          · exact ⟨by simp, by simp, by simp only; omega, by simpa using h0⟩
        · exact ⟨by simp, by simp, by simp only; omega, by simpa using h0⟩
theorem byte_toNat {b : UInt8} (h : b.toNat ≠ 32) : b ≠ 32 := by rintro rfl; exact h rfl
theorem drop_cons_get (s : ByteArray) (pos : Nat) (h : pos < s.size) : s.data.toList.drop pos = s.get! pos :: s.data.toList.drop (pos + 1) := by
  rw [List.drop_eq_getElem_cons (by simpa using h), get_bang s pos h]
  rfl
theorem spans_fld (s : ByteArray) : ∀ (f pos : Nat) (st : Option Nat) (acc : List (Nat × Nat)), s.size ≤ pos + f → pos ≤ s.size → (∀ a, st = some a → a < pos) →
    acc.map (fun p => pieceU s.data.toList p.1 p.2) ++ fldGo (openPiece s.data.toList st pos) (s.data.toList.drop pos) = (closeSpans s (spansFromP isBlank s f pos st acc)).map (fun p => pieceU s.data.toList p.1 p.2)
  | 0, pos, st, acc, h, hp, hst => by
    obtain rfl : pos = s.size := by omega
    have hd : s.data.toList.drop s.size = [] := List.drop_eq_nil_of_le (by rw [← size_eq]; exact Nat.le_refl _)
    rw [hd, fldGo]
    cases st with
    | none => simp [spansFromP, closeSpans, openPiece]
    | some a =>
      have := pieceU_ne s.data.toList a s.size (hst a rfl) (by rw [← size_eq]; exact Nat.le_refl _)
      simp [spansFromP, closeSpans, openPiece, this]
  | f + 1, pos, st, acc, h, hp, hst => by
    by_cases hlt : pos < s.size
    · by_cases hb : (s.get! pos).toNat = 32
      · have hdec := dec_blank s pos hb
        have hbb : s.get! pos = 32 := UInt8.toNat_inj.1 hb
        rw [drop_cons_get s pos hlt, hbb, fldGo, if_pos rfl]
        simp only [spansFromP, if_pos hlt, hdec]
        simp only [isBlank, decide_true, if_true]
        cases st with
        | none =>
          have ih := spans_fld s f (pos + 1) none acc (by omega) (by omega) (fun a h => by cases h)
          simpa [openPiece] using ih
        | some a =>
          have hpn := pieceU_ne s.data.toList a pos (hst a rfl) (by rw [← size_eq]; omega)
          have ih := spans_fld s f (pos + 1) none (acc ++ [(a, pos)]) (by omega) (by omega) (fun a h => by cases h)
          simpa [openPiece, hpn] using ih
      · obtain ⟨h1, h2, h3, h4⟩ := dec_other s pos hlt hb
        simp only [spansFromP, if_pos hlt]
        have hib : isBlank (Utf8.decode s pos).1 = false := by unfold isBlank; exact decide_eq_false h1
        rw [hib]
        simp only [Bool.false_eq_true, if_false]
        generalize (Utf8.decode s pos).2 = k at h2 h3 h4 ⊢
        have hsplit : s.data.toList.drop pos = (s.data.toList.drop pos).take k ++ s.data.toList.drop (pos + k) := by
          rw [← List.drop_drop, List.take_append_drop]
        have hno : ∀ b ∈ (s.data.toList.drop pos).take k, b ≠ 32 := by
          intro b hb'
          obtain ⟨j, hj, e⟩ := List.mem_iff_getElem.1 hb'
          rw [List.length_take, List.length_drop] at hj
          have := h4 j (by omega)
          rw [get_bang s (pos + j) (by omega)] at this
          rw [← e, List.getElem_take, List.getElem_drop]
          exact byte_toNat this
        rw [hsplit, fldGo_skip _ _ _ hno]
        cases st with
        | none =>
          have ih := spans_fld s f (pos + k) (some pos) acc (by omega) h3 (fun a h => by cases h; omega)
          have e : ([] : Bs) ++ (s.data.toList.drop pos).take k = pieceU s.data.toList pos (pos + k) := by
            unfold pieceU
            rw [List.nil_append, Nat.add_sub_cancel_left]
          simp only [openPiece] at ih ⊢
          rw [e]
          exact ih
        | some a =>
          have ih := spans_fld s f (pos + k) (some a) acc (by omega) h3 (fun b h => by cases h; have := hst a rfl; omega)
          simp only [openPiece] at ih ⊢
          rw [pieceU_grow _ _ _ _ (Nat.le_of_lt (hst a rfl))]
          exact ih
    · obtain rfl : pos = s.size := by omega
      have hd : s.data.toList.drop s.size = [] := List.drop_eq_nil_of_le (by rw [← size_eq]; exact Nat.le_refl _)
      rw [hd, fldGo, spansFromP_end isBlank s _ _ _ _ hlt]
      cases st with
      | none => simp [closeSpans, openPiece]
      | some a =>
        have := pieceU_ne s.data.toList a s.size (hst a rfl) (by rw [← size_eq]; exact Nat.le_refl _)
        simp [closeSpans, openPiece, this]
/-- What strings.FieldsFunc gives. -/
theorem goFields_blank (s : ByteArray) : goFieldsP isBlank s = (fieldsB s.data.toList).map ba := by
  have h := spans_fld s s.size 0 none [] (by omega) (by omega) (fun a h => by cases h)
  simp only [List.map_nil, List.nil_append, openPiece, List.drop_zero] at h
  unfold goFieldsP fieldsB spansOfP
  rw [h, List.map_map]
  apply List.map_congr_left
  intro x _
  show s.extract x.1 x.2 = ba (pieceU s.data.toList x.1 x.2)
  rw [← ba_of (s.extract x.1 x.2), Lib.extract_data]
  rfl
theorem fldGo_len : ∀ (cur l : Bs), (fldGo cur l).length ≤ l.length + 1
  | cur, [] => by unfold fldGo; split <;> simp
  | cur, b :: l => by
    unfold fldGo
    split
    · split
      · have := fldGo_len [] l; simp; omega
      · have := fldGo_len [] l; simp; omega
    · have := fldGo_len (cur ++ [b]) l; simp; omega
theorem fldGo_size : ∀ (cur l : Bs) (x : Bs), x ∈ fldGo cur l → x.length ≤ cur.length + l.length
  | cur, [], x, h => by
    unfold fldGo at h
    split at h
    · simp at h
    · simp at h; subst h; simp
  | cur, b :: l, x, h => by
    unfold fldGo at h
    split at h
    · split at h
      · have := fldGo_size [] l x h; simp at this ⊢; omega
      · rcases List.mem_cons.1 h with rfl | h
        · simp
        · have := fldGo_size [] l x h; simp at this ⊢; omega
    · have := fldGo_size (cur ++ [b]) l x h; simp at this ⊢; omega
end Go.Proofs.YtlkpbpecgdphaaaGreatDoor
namespace Go.Proofs.YtlkpbpecgdphaaaGreatDoor
open Go.RowKit

/-- Is a byte (a number) one that may stand first, or behind? -/
def letB (c : Int) : Bool := decide (97 ≤ c ∧ c ≤ 122)
def digB (c : Int) : Bool := decide (48 ≤ c ∧ c ≤ 57)
def chB (k : Nat) (c : Int) : Bool := letB c || (decide (0 < k) && (digB c || decide (c = 46)))
def nameB (s : ByteArray) : Bool := decide (1 ≤ s.size ∧ s.size ≤ 8) && (List.range s.size).all fun k => chB k ((s.data.getD k 0).toNat : Int)

theorem nameB_short {s : ByteArray} (h : s.size < 1 ∨ 8 < s.size) : nameB s = false := by
  unfold nameB; rw [decide_eq_false (by omega)]; rfl
theorem nameB_bad {s : ByteArray} {k : Nat} (hk : k < s.size) (h : chB k (s[k].toNat : Int) = false) : nameB s = false := by
  unfold nameB
  rw [Bool.and_eq_false_iff]
  right
  rw [List.all_eq_false]
  refine ⟨k, by simpa using hk, ?_⟩
  have e : s.data.getD k 0 = s[k] := by
    show s.data.getD k 0 = s.data[k]
    rw [Array.getD_eq_getD_getElem?, Array.getElem?_eq_getElem hk]; rfl
  rw [e, h]; simp
theorem nameB_good {s : ByteArray} (h1 : 1 ≤ s.size) (h8 : s.size ≤ 8) (h : ∀ k (hk : k < s.size), chB k (s[k].toNat : Int) = true) : nameB s = true := by
  unfold nameB
  rw [decide_eq_true ⟨h1, h8⟩, Bool.true_and, List.all_eq_true]
  intro k hk
  have hk' : k < s.size := by simpa using hk
  have e : s.data.getD k 0 = s[k] := by
    show s.data.getD k 0 = s.data[k]
    rw [Array.getD_eq_getD_getElem?, Array.getElem?_eq_getElem hk']; rfl
  rw [e]; exact h k hk'

set_option maxHeartbeats 400000 in
set_option maxRecDepth 100000 in
theorem letter_any (c : Int) (w : World) : Calls Tryz.prog 65 #[.int .u8 c] w fun e w' => e = .returned (.bool (letB c)) ∧ w = w' := by
  unfold letB
  by_cases h1 : 97 ≤ c
  · by_cases h2 : c ≤ 122
    · rw [decide_eq_true ⟨h1, h2⟩]
      go_enter Tryz.func65, Tryz.ntmps65
      go_wp2
      go_ret
      exact ⟨rfl, rfl⟩
    · rw [decide_eq_false (by omega)]
      have d2 : decide (c ≤ 122) = false := decide_eq_false h2
      go_enter Tryz.func65, Tryz.ntmps65
      go_wp2
      go_ret
      exact ⟨rfl, rfl⟩
  · rw [decide_eq_false (by omega)]
    have d1 : decide (97 ≤ c) = false := decide_eq_false h1
    go_enter Tryz.func65, Tryz.ntmps65
    go_wp2
    go_ret
    exact ⟨rfl, rfl⟩

set_option maxHeartbeats 400000 in
set_option maxRecDepth 100000 in
theorem digit_any (c : Int) (w : World) : Calls Tryz.prog 66 #[.int .u8 c] w fun e w' => e = .returned (.bool (digB c)) ∧ w = w' := by
  unfold digB
  by_cases h1 : 48 ≤ c
  · by_cases h2 : c ≤ 57
    · rw [decide_eq_true ⟨h1, h2⟩]
      go_enter Tryz.func66, Tryz.ntmps66
      go_wp2
      go_ret
      exact ⟨rfl, rfl⟩
    · rw [decide_eq_false (by omega)]
      have d2 : decide (c ≤ 57) = false := decide_eq_false h2
      go_enter Tryz.func66, Tryz.ntmps66
      go_wp2
      go_ret
      exact ⟨rfl, rfl⟩
  · rw [decide_eq_false (by omega)]
    have d1 : decide (48 ≤ c) = false := decide_eq_false h1
    go_enter Tryz.func66, Tryz.ntmps66
    go_wp2
    go_ret
    exact ⟨rfl, rfl⟩

/-- The first k bytes may stand there. -/
def ChTo (s : ByteArray) (k : Nat) : Prop := ∀ j (hj : j < s.size), j < k → chB j (s[j].toNat : Int) = true
theorem ChTo.next {s : ByteArray} {k : Nat} (h : ChTo s k) (hk : k < s.size) (hc : chB k (s[k].toNat : Int) = true) : ChTo s (k + 1) := by
  intro j hj hjk
  rcases Nat.lt_or_ge j k with h1 | h1
  · exact h j hj h1
  · obtain rfl : j = k := by omega
    exact hc
def NameRel (s : ByteArray) (i : Value) : Prop := ∃ k : Nat, k ≤ s.size ∧ i = .int .i64 k ∧ ChTo s k
theorem chB_let {k : Nat} {c : Int} (h : letB c = true) : chB k c = true := by simp [chB, h]
theorem chB_dig {k : Nat} {c : Int} (hk : 0 < k) (h : digB c = true) : chB k c = true := by simp [chB, h, hk]
theorem chB_dot {k : Nat} {c : Int} (hk : 0 < k) (h : c = 46) : chB k c = true := by simp [chB, h, hk]
theorem chB_no {k : Nat} {c : Int} (h1 : letB c = false) (h2 : digB c = false) (h3 : c ≠ 46) : chB k c = false := by simp [chB, h1, h2, h3]
theorem chB_no0 {c : Int} (h1 : letB c = false) : chB 0 c = false := by simp [chB, h1]

set_option maxHeartbeats 2000000 in
set_option maxRecDepth 100000 in
theorem name_any (s : ByteArray) (w : World) (hs : s.size ≤ 1000000) : Calls Tryz.prog 36 #[.string s] w fun e w' => e = .returned (.bool (nameB s)) ∧ w = w' := by
  by_cases h1 : s.size < 1
  · rw [nameB_short (.inl h1)]
    have d1 : (s.size : Int) < 1 := by omega
    go_enter Tryz.func36, Tryz.ntmps36
    go_wp2
    go_ret
    exact ⟨rfl, rfl⟩
  have d1 : decide ((s.size : Int) < 1) = false := decide_eq_false (by omega)
  by_cases h2 : 8 < s.size
  · rw [nameB_short (.inr h2)]
    have d2 : (8 : Int) < (s.size : Int) := by omega
    go_enter Tryz.func36, Tryz.ntmps36
    go_wp2
    go_ret
    exact ⟨rfl, rfl⟩
  have d2 : decide ((8 : Int) < (s.size : Int)) = false := decide_eq_false (by omega)
  have h0 : 0 < s.size := by omega
  have d0 : (0 : Int) < (s.size : Int) := by omega
  cases hl : letB (s[0].toNat : Int) with
  | false =>
    rw [nameB_bad h0 (by simp [chB, hl])]
    have HL := Lib.hid hl
    clear hl
    go_enter Tryz.func36, Tryz.ntmps36
    go_wp2_with fail
    refine (letter_any _ _).mono ?_
    rintro e w1 ⟨rfl, rfl⟩
    rw [HL.out]
    go_wp2
    go_ret
    exact ⟨rfl, rfl⟩
  | true =>
    have HL := Lib.hid hl
    clear hl
    generalize hr : nameB s = r
    have HRES := Lib.hid hr
    clear hr
    go_enter Tryz.func36, Tryz.ntmps36
    go_wp2_with fail
    refine (letter_any _ _).mono ?_
    rintro e w1 ⟨rfl, rfl⟩
    rw [HL.out]
    go_wp2
    go_loop [20] (fun i => NameRel s i) (fun i => s.size - (intOf i).toNat)
    case atStart => exact ⟨0, Nat.zero_le _, rfl, fun j _ h => by omega⟩
    case round =>
      obtain ⟨k, hk, rfl, hch⟩ := hrel
      have HC := Lib.hid hch
      clear hch
      by_cases hlt : k < s.size
      · have hkz : (k : Int) < (s.size : Int) := by omega
        have hk0 : letB (s[k].toNat : Int) = false → 0 < k := by
          intro h
          rcases Nat.eq_zero_or_pos k with h0' | h0'
          · subst h0'; have := HL.out; rw [h] at this; cases this
          · exact h0'
        have HK0 := Lib.hid hk0
        clear hk0
        cases hb : letB (s[k].toNat : Int) with
        | true =>
          have HB := Lib.hid hb
          clear hb
          go_wp2_with fail
          refine (letter_any _ _).mono ?_
          rintro e w1 ⟨rfl, rfl⟩
          rw [HB.out]
          go_wp2
          go_round
          case rel => exact ⟨k + 1, by omega, by go_num, HC.out.next hlt (chB_let HB.out)⟩
          case measure => simp [intOf]; omega
        | false =>
          have HB := Lib.hid hb
          clear hb
          cases hd : digB (s[k].toNat : Int) with
          | true =>
            have HD := Lib.hid hd
            clear hd
            go_wp2_with fail
            refine (letter_any _ _).mono ?_
            rintro e w1 ⟨rfl, rfl⟩
            rw [HB.out]
            go_wp2_with fail
            refine (digit_any _ _).mono ?_
            rintro e w1 ⟨rfl, rfl⟩
            rw [HD.out]
            go_wp2
            go_round
            case rel => exact ⟨k + 1, by omega, by go_num, HC.out.next hlt (chB_dig (HK0.out HB.out) HD.out)⟩
            case measure => simp [intOf]; omega
          | false =>
            have HD := Lib.hid hd
            clear hd
            cases h46 : ((s[k].toNat : Int) != 46) with
            | false =>
              go_wp2_with fail
              refine (letter_any _ _).mono ?_
              rintro e w1 ⟨rfl, rfl⟩
              rw [HB.out]
              go_wp2_with fail
              refine (digit_any _ _).mono ?_
              rintro e w1 ⟨rfl, rfl⟩
              rw [HD.out]
              go_wp2
              go_round
              case rel => exact ⟨k + 1, by omega, by go_num, HC.out.next hlt (chB_dot (HK0.out HB.out) (by simpa using h46))⟩
              case measure => simp [intOf]; omega
            | true =>
              go_wp2_with fail
              refine (letter_any _ _).mono ?_
              rintro e w1 ⟨rfl, rfl⟩
              rw [HB.out]
              go_wp2_with fail
              refine (digit_any _ _).mono ?_
              rintro e w1 ⟨rfl, rfl⟩
              rw [HD.out]
              go_wp2
              go_ret
              exact ⟨by rw [← HRES.out, nameB_bad hlt (chB_no HB.out HD.out (by simpa using h46))]; rfl, rfl⟩
      · obtain rfl : k = s.size := by omega
        go_wp2
        go_ret
        exact ⟨by rw [← HRES.out, nameB_good (by omega) (by omega) (fun j hj => HC.out j hj hj)]; rfl, rfl⟩
end Go.Proofs.YtlkpbpecgdphaaaGreatDoor
namespace Go.Proofs.YtlkpbpecgdphaaaGreatDoor
open Go.RowKit

theorem chB_of {k : Nat} {c : Int} {b : Bool} (h : b = true ↔ (97 ≤ c ∧ c ≤ 122) ∨ (0 < k ∧ ((48 ≤ c ∧ c ≤ 57) ∨ c = 46))) : chB k c = b := by
  rw [Bool.eq_iff_iff, h]
  simp [chB, letB, digB]

set_option maxHeartbeats 4000000 in
set_option maxRecDepth 100000 in
theorem nameMay_any (s : ByteArray) (w : World) (hs : s.size ≤ 1000000) : Calls Tryz.prog 38 #[.string s] w fun e w' => e = .returned (.bool (nameB s)) ∧ w = w' := by
  by_cases h1 : s.size < 1
  · rw [nameB_short (.inl h1)]
    have d1 : (s.size : Int) < 1 := by omega
    go_enter Tryz.func38, Tryz.ntmps38
    go_wp2
    go_ret
    exact ⟨rfl, rfl⟩
  have d1 : decide ((s.size : Int) < 1) = false := decide_eq_false (by omega)
  by_cases h2 : 8 < s.size
  · rw [nameB_short (.inr h2)]
    have d2 : (8 : Int) < (s.size : Int) := by omega
    go_enter Tryz.func38, Tryz.ntmps38
    go_wp2
    go_ret
    exact ⟨rfl, rfl⟩
  have d2 : decide ((8 : Int) < (s.size : Int)) = false := decide_eq_false (by omega)
  generalize hr : nameB s = r
  have HRES := Lib.hid hr
  clear hr
  go_enter Tryz.func38, Tryz.ntmps38
  go_wp2
  go_loop [3] (fun i => NameRel s i) (fun i => s.size - (intOf i).toNat)
  case atStart => exact ⟨0, Nat.zero_le _, rfl, fun j _ h => by omega⟩
  case round =>
    obtain ⟨k, hk, rfl, hch⟩ := hrel
    have HC := Lib.hid hch
    clear hch
    by_cases hlt : k < s.size
    · have hkz : (k : Int) < (s.size : Int) := by omega
      rcases (show (97 ≤ (s[k].toNat : Int) ∧ (s[k].toNat : Int) ≤ 122) ∨ (48 ≤ (s[k].toNat : Int) ∧ (s[k].toNat : Int) ≤ 57) ∨ (s[k].toNat : Int) = 46 ∨ (s[k].toNat : Int) < 46 ∨ (s[k].toNat : Int) = 47 ∨ (58 ≤ (s[k].toNat : Int) ∧ (s[k].toNat : Int) ≤ 96) ∨ 122 < (s[k].toNat : Int) by omega) with hx | hx | hx | hx | hx | hx | hx
      · have t1 : 97 ≤ (s[k].toNat : Int) := by omega
        have t2 : (s[k].toNat : Int) ≤ 122 := by omega
        have t3 : 48 ≤ (s[k].toNat : Int) := by omega
        have t4 : decide ((s[k].toNat : Int) ≤ 57) = false := decide_eq_false (by omega)
        have t5 : ((s[k].toNat : Int) == 46) = false := by rw [beq_eq_false_iff_ne]; omega
        have HX := Lib.hid hx
        clear hx
        go_wp2
        go_round
        case rel => exact ⟨k + 1, by omega, by go_num, HC.out.next hlt (chB_of (by have hx := HX.out; simp; omega))⟩
        case measure => simp [intOf]; omega
      · have t1 : decide (97 ≤ (s[k].toNat : Int)) = false := decide_eq_false (by omega)
        have t3 : 48 ≤ (s[k].toNat : Int) := by omega
        have t4 : (s[k].toNat : Int) ≤ 57 := by omega
        by_cases hk0 : k = 0
        · have hk0' : (k : Int) = 0 := by omega
          have t6 : ((k : Int) == 0) = true := by rw [beq_iff_eq]; omega
          clear hk0'
          have HK := Lib.hid hk0
          clear hk0
          have HX := Lib.hid hx
          clear hx
          go_wp2
          go_ret
          exact ⟨by rw [← HRES.out, nameB_bad hlt (chB_of (by have hx := HX.out; have hk0 := HK.out; simp; omega))]; rfl, rfl⟩
        · have t6 : ((k : Int) == 0) = false := by rw [beq_eq_false_iff_ne]; omega
          have HX := Lib.hid hx
          clear hx
          go_wp2
          go_round
          case rel => exact ⟨k + 1, by omega, by go_num, HC.out.next hlt (chB_of (by have hx := HX.out; simp; omega))⟩
          case measure => simp [intOf]; omega
      · have t1 : decide (97 ≤ (s[k].toNat : Int)) = false := decide_eq_false (by omega)
        have t3 : decide (48 ≤ (s[k].toNat : Int)) = false := decide_eq_false (by omega)
        have t5 : ((s[k].toNat : Int) == 46) = true := by rw [beq_iff_eq]; omega
        by_cases hk0 : k = 0
        · have hk0' : (k : Int) = 0 := by omega
          have t6 : ((k : Int) == 0) = true := by rw [beq_iff_eq]; omega
          clear hk0'
          have HK := Lib.hid hk0
          clear hk0
          have HX := Lib.hid hx
          clear hx
          go_wp2
          go_ret
          exact ⟨by rw [← HRES.out, nameB_bad hlt (chB_of (by have hx := HX.out; have hk0 := HK.out; simp; omega))]; rfl, rfl⟩
        · have t6 : ((k : Int) == 0) = false := by rw [beq_eq_false_iff_ne]; omega
          have HX := Lib.hid hx
          clear hx
          go_wp2
          go_round
          case rel => exact ⟨k + 1, by omega, by go_num, HC.out.next hlt (chB_of (by have hx := HX.out; simp; omega))⟩
          case measure => simp [intOf]; omega
      · have t1 : decide (97 ≤ (s[k].toNat : Int)) = false := decide_eq_false (by omega)
        have t3 : decide (48 ≤ (s[k].toNat : Int)) = false := decide_eq_false (by omega)
        have t5 : ((s[k].toNat : Int) == 46) = false := by rw [beq_eq_false_iff_ne]; omega
        by_cases hk0 : k = 0
        · have hk0' : (k : Int) = 0 := by omega
          have t6 : ((k : Int) == 0) = true := by rw [beq_iff_eq]; omega
          clear hk0'
          have HK := Lib.hid hk0
          clear hk0
          have HX := Lib.hid hx
          clear hx
          go_wp2
          go_ret
          exact ⟨by rw [← HRES.out, nameB_bad hlt (chB_of (by have hx := HX.out; have hk0 := HK.out; simp; omega))]; rfl, rfl⟩
        · have t6 : ((k : Int) == 0) = false := by rw [beq_eq_false_iff_ne]; omega
          have HX := Lib.hid hx
          clear hx
          go_wp2
          go_ret
          exact ⟨by rw [← HRES.out, nameB_bad hlt (chB_of (by have hx := HX.out; simp; omega))]; rfl, rfl⟩
      · have t1 : decide (97 ≤ (s[k].toNat : Int)) = false := decide_eq_false (by omega)
        have t3 : decide (48 ≤ (s[k].toNat : Int)) = false := decide_eq_false (by omega)
        have t5 : ((s[k].toNat : Int) == 46) = false := by rw [beq_eq_false_iff_ne]; omega
        by_cases hk0 : k = 0
        · have hk0' : (k : Int) = 0 := by omega
          have t6 : ((k : Int) == 0) = true := by rw [beq_iff_eq]; omega
          clear hk0'
          have HK := Lib.hid hk0
          clear hk0
          have HX := Lib.hid hx
          clear hx
          go_wp2
          go_ret
          exact ⟨by rw [← HRES.out, nameB_bad hlt (chB_of (by have hx := HX.out; have hk0 := HK.out; simp; omega))]; rfl, rfl⟩
        · have t6 : ((k : Int) == 0) = false := by rw [beq_eq_false_iff_ne]; omega
          have HX := Lib.hid hx
          clear hx
          go_wp2
          go_ret
          exact ⟨by rw [← HRES.out, nameB_bad hlt (chB_of (by have hx := HX.out; simp; omega))]; rfl, rfl⟩
      · have t1 : decide (97 ≤ (s[k].toNat : Int)) = false := decide_eq_false (by omega)
        have t3 : 48 ≤ (s[k].toNat : Int) := by omega
        have t4 : decide ((s[k].toNat : Int) ≤ 57) = false := decide_eq_false (by omega)
        have t5 : ((s[k].toNat : Int) == 46) = false := by rw [beq_eq_false_iff_ne]; omega
        by_cases hk0 : k = 0
        · have hk0' : (k : Int) = 0 := by omega
          have t6 : ((k : Int) == 0) = true := by rw [beq_iff_eq]; omega
          clear hk0'
          have HK := Lib.hid hk0
          clear hk0
          have HX := Lib.hid hx
          clear hx
          go_wp2
          go_ret
          exact ⟨by rw [← HRES.out, nameB_bad hlt (chB_of (by have hx := HX.out; have hk0 := HK.out; simp; omega))]; rfl, rfl⟩
        · have t6 : ((k : Int) == 0) = false := by rw [beq_eq_false_iff_ne]; omega
          have HX := Lib.hid hx
          clear hx
          go_wp2
          go_ret
          exact ⟨by rw [← HRES.out, nameB_bad hlt (chB_of (by have hx := HX.out; simp; omega))]; rfl, rfl⟩
      · have t1 : 97 ≤ (s[k].toNat : Int) := by omega
        have t2 : decide ((s[k].toNat : Int) ≤ 122) = false := decide_eq_false (by omega)
        have t3 : 48 ≤ (s[k].toNat : Int) := by omega
        have t4 : decide ((s[k].toNat : Int) ≤ 57) = false := decide_eq_false (by omega)
        have t5 : ((s[k].toNat : Int) == 46) = false := by rw [beq_eq_false_iff_ne]; omega
        by_cases hk0 : k = 0
        · have hk0' : (k : Int) = 0 := by omega
          have t6 : ((k : Int) == 0) = true := by rw [beq_iff_eq]; omega
          clear hk0'
          have HK := Lib.hid hk0
          clear hk0
          have HX := Lib.hid hx
          clear hx
          go_wp2
          go_ret
          exact ⟨by rw [← HRES.out, nameB_bad hlt (chB_of (by have hx := HX.out; have hk0 := HK.out; simp; omega))]; rfl, rfl⟩
        · have t6 : ((k : Int) == 0) = false := by rw [beq_eq_false_iff_ne]; omega
          have HX := Lib.hid hx
          clear hx
          go_wp2
          go_ret
          exact ⟨by rw [← HRES.out, nameB_bad hlt (chB_of (by have hx := HX.out; simp; omega))]; rfl, rfl⟩
    · obtain rfl : k = s.size := by omega
      go_wp2
      go_ret
      exact ⟨by rw [← HRES.out, nameB_good (by omega) (by omega) (fun j hj => HC.out j hj hj)]; rfl, rfl⟩
end Go.Proofs.YtlkpbpecgdphaaaGreatDoor
