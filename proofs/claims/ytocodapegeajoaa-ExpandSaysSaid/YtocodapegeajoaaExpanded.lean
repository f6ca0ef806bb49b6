/-
  WALK: hammerpondref.Expanded: what a text comes to (expR), for texts of at most 1000 bytes and variables of at most 1000 bytes.
-/
import Derived.Test.YtocodapegeajoaaFind
import Derived.Test.YtocodapegeajoaaText
namespace Go.Proofs.Ytocodapegeajoaa
open Go.RowKit

def REXP (l : List F) (k : Nat) : Prop := ∀ (A : Option Addr) (n c : Nat) (s : ByteArray) (w : World), RdF w w.heap.size A n c l → n ≤ 1000000 → s.size ≤ 1000 →
  Calls Try.prog 34 #[.slice A n c, .string s, .int .i64 (5 - (k : Int))] w fun e w' => e = .returned (.tuple #[.string (ba (expR l k s.data.toList).2), .int .i64 (expR l k s.data.toList).1]) ∧ w = w'
set_option maxHeartbeats 1000000 in
theorem rexp_deep (v t : Value) (w : World) : Calls Try.prog 34 #[v, t, .int .i64 6] w fun e w' => e = .returned (.tuple #[.string ⟨#[]⟩, .int .i64 9]) ∧ w = w' := by
  go_enter Try.func34, Try.ntmps34
  go_wp2
  go_ret2
  exact ⟨rfl, rfl⟩
structure RxRel (l : List F) (k : Nat) (r : Nat × Bs) (s : ByteArray) (o a : Value) : Prop where
  ex : ∃ (out : Bs) (at_ fuel : Nat), o = .string (ba out) ∧ a = .int .i64 at_ ∧ at_ ≤ s.size ∧ s.size - at_ < fuel ∧ out.length ≤ 600 ∧ expL (valR l k) fuel out (s.data.toList.drop at_) = r
structure LvRel (l : List F) (n : Nat) (name : ByteArray) (t is i : Value) : Prop where
  ex : ∃ j : Nat, j ≤ n ∧ i = .int .i64 j ∧ t = .string ((lastV (l.take j) name).getD ⟨#[]⟩) ∧ is = .bool (lastV (l.take j) name).isSome
theorem ext_drop (s : ByteArray) (a b : Nat) : s.extract a b = ba ((s.data.toList.drop a).take (b - a)) := by rw [← ba_of (s.extract a b), Lib.extract_data]
theorem fk_take_snoc {l : List F} {k : Nat} {x : F} (h : l[k]? = some x) : l.take (k + 1) = l.take k ++ [x] := by
  have hl := (List.getElem?_eq_some_iff.1 h).1
  rw [List.take_succ_eq_append_getElem hl]
  rw [(List.getElem?_eq_some_iff.1 h).2]

set_option maxHeartbeats 4000000 in
set_option maxRecDepth 100000 in
theorem rexp_step (l : List F) (hl : ∀ v ∈ l, v.2.size ≤ 1000) (k : Nat) (hk : k ≤ 5) (hrec : ∀ k', k = k' + 1 → REXP l k') : REXP l k := by
  intro A n c s w h hn hs
  have HR := Lib.hid h
  have HLN := Lib.hid h.1
  have HL := Lib.hid hl
  have HREC := Lib.hid hrec
  clear h hl hrec
  obtain ⟨r, hr⟩ : ∃ r, r = expR l k s.data.toList := ⟨_, rfl⟩
  rw [← hr]
  unfold expR at hr
  have HX := Lib.hid hr
  clear hr
  obtain ⟨d, hd⟩ : ∃ d : Int, d = 5 - (k : Int) := ⟨_, rfl⟩
  rw [← hd]
  have HD := Lib.hid hd
  have hd5 : decide ((5 : Int) < d) = false := decide_eq_false (by omega)
  have hd0 : 0 ≤ d := by omega
  have hd6 : d ≤ 5 := by omega
  clear hd
  have hsl : s.data.toList.length = s.size := by simp
  have HSL := Lib.hid hsl
  clear hsl
  go_enter Try.func34, Try.ntmps34
  go_wp2
  go_loop [8, 9] (fun o a => RxRel l k r s o a) (fun _ a => s.size + 1 - (intOf a).toNat)
  case atStart => exact ⟨[], 0, s.data.toList.length + 1, rfl, rfl, Nat.zero_le _, by simp, by simp, HX.out.symm⟩
  case round =>
    obtain ⟨out, at_, fuel, rfl, rfl, hat, hfu, hol, hx⟩ := hrel.ex
    clear hrel HX
    obtain ⟨f, rfl⟩ : ∃ f, fuel = f + 1 := ⟨fuel - 1, by omega⟩
    rw [expL] at hx
    have hge := Lib.index_ge (s.data.toList.drop at_) [36, 40]
    have ho1 : (ba out).size ≤ 600 := by rw [ba_size]; exact hol
    go_wp2_with fail
    refine (find_any s ⟨#[36, 40]⟩ at_ w (by decide) (by decide) hat (by omega)).mono ?_
    rintro e w' ⟨rfl, rfl⟩
    rw [show (⟨#[36, 40]⟩ : ByteArray).data.toList = [36, 40] from rfl]
    by_cases hm : Lib.index (s.data.toList.drop at_) [36, 40] = -1
    · rw [show findR s.data.toList [36, 40] at_ = -1 by unfold findR; rw [if_pos hm]]
      rw [cut_none hm] at hx
      simp only [Bool.false_eq_true, if_false] at hx
      have HX := Lib.hid hx
      clear hx hm hge
      have hdl : (s.data.toList.drop at_).length = s.size - at_ := by rw [List.length_drop, HSL.out]
      have e1 : s.extract at_ s.size = ba (s.data.toList.drop at_) := by rw [ext_drop, List.take_of_length_le (by rw [hdl]; omega)]
      have z1 : (s.extract at_ s.size).size ≤ 1000 := by rw [ByteArray.size_extract]; omega
      have hsz : ((ba out).size : Int) + ((s.extract at_ s.size).size : Int) = ((out ++ s.data.toList.drop at_).length : Int) := by rw [e1, ba_size, ba_size]; simp
      have hap : ba (out ++ s.data.toList.drop at_) = ba out ++ s.extract at_ s.size := by rw [ba_append, e1]
      have hatz : (at_ : Int) ≤ (s.size : Int) := by omega
      clear e1 hdl
      generalize hqe : s.extract at_ s.size = q at *
      have HAP := Lib.hid hap
      clear hap
      by_cases hq : 600 < (out ++ s.data.toList.drop at_).length
      · have t1 : (600 : Int) < ((ba out).size : Int) + (q.size : Int) := by rw [hsz]; omega
        have hx := HX.out
        rw [if_pos hq] at hx
        have HY := Lib.hid hx
        clear hx hsz
        go_wp2
        go_ret2
        exact ⟨by rw [← HY.out]; rfl, rfl⟩
      · have t1 : decide ((600 : Int) < ((ba out).size : Int) + (q.size : Int)) = false := decide_eq_false (by rw [hsz]; omega)
        have hx := HX.out
        rw [if_neg hq] at hx
        have HY := Lib.hid hx
        clear hx hsz
        go_wp2
        go_ret2
        exact ⟨by rw [← HY.out, HAP.out]; rfl, rfl⟩
    · obtain ⟨i, ei⟩ : ∃ i : Nat, Lib.index (s.data.toList.drop at_) [36, 40] = i := ⟨(Lib.index (s.data.toList.drop at_) [36, 40]).toNat, by omega⟩
      have hroom := Lib.index_room (s.data.toList.drop at_) [36, 40] (by omega)
      rw [ei, List.length_drop, HSL.out] at hroom
      have hroom' : at_ + i + 2 ≤ s.size := by simp at hroom; omega
      have hfr : findR s.data.toList [36, 40] at_ = ((at_ + i : Nat) : Int) := by unfold findR; rw [if_neg hm, ei]; omega
      rw [hfr]
      rw [cut_at ei] at hx
      simp only [if_true, List.length_cons, List.length_nil, Nat.zero_add, List.drop_drop] at hx
      clear hfr hm hge hroom
      have epl : s.extract at_ (at_ + i) = ba ((s.data.toList.drop at_).take i) := by rw [ext_drop, show at_ + i - at_ = i by omega]
      have zpl : (s.extract at_ (at_ + i)).size ≤ 1000 := by rw [ByteArray.size_extract]; omega
      generalize hpe : at_ + i = p at *
      have HPE := Lib.hid hpe
      have hap : at_ ≤ p := by omega
      have hapz : (at_ : Int) ≤ (p : Int) := by omega
      have hpz : (p : Int) ≤ (s.size : Int) := by omega
      clear hpe
      rw [show at_ + (i + (1 + 1)) = p + 2 by have := HPE.out; omega] at hx
      generalize hple : s.extract at_ p = pl at *
      generalize hplB : (s.data.toList.drop at_).take i = plB at *
      have HX := Lib.hid hx
      have HEPL := Lib.hid epl
      clear hx epl hplB
      have zop : (ba out ++ pl).size ≤ 1600 := by rw [ByteArray.size_append]; omega
      have hpn : p + 2 ≤ 1000 := by omega
      go_wp2_with fail
      have hp2 : (p : Int) + 2 = ((p + 2 : Nat) : Int) := by omega
      rw [hp2]
      refine (find_any s ⟨#[41]⟩ (p + 2) w (by decide) (by decide) (by omega) (by omega)).mono ?_
      rintro e w' ⟨rfl, rfl⟩
      rw [← hp2]
      clear hp2
      rw [show (⟨#[41]⟩ : ByteArray).data.toList = [41] from rfl]
      have hge2 := Lib.index_ge (s.data.toList.drop (p + 2)) [41]
      by_cases hm2 : Lib.index (s.data.toList.drop (p + 2)) [41] = -1
      · rw [show findR s.data.toList [41] (p + 2) = -1 by unfold findR; rw [if_pos hm2]]
        have hx := HX.out
        rw [cut_none hm2] at hx
        simp only [Bool.false_eq_true, if_false] at hx
        have HY := Lib.hid hx
        clear hx hm2 hge2
        go_wp2
        go_ret2
        exact ⟨by rw [← HY.out]; rfl, rfl⟩
      · obtain ⟨j, ej⟩ : ∃ j : Nat, Lib.index (s.data.toList.drop (p + 2)) [41] = j := ⟨(Lib.index (s.data.toList.drop (p + 2)) [41]).toNat, by omega⟩
        have hroom := Lib.index_room (s.data.toList.drop (p + 2)) [41] (by omega)
        rw [ej, List.length_drop, HSL.out] at hroom
        have hroom2 : p + 2 + j + 1 ≤ s.size := by simp at hroom; omega
        rw [show findR s.data.toList [41] (p + 2) = ((p + 2 + j : Nat) : Int) by unfold findR; rw [if_neg hm2, ej]; omega]
        have hx := HX.out
        rw [cut_at ej] at hx
        simp only [if_true, List.length_cons, List.length_nil, Nat.zero_add, List.drop_drop] at hx
        clear hm2 hge2 hroom HX
        have enm : s.extract (p + 2) (p + 2 + j) = ba ((s.data.toList.drop (p + 2)).take j) := by rw [ext_drop, show p + 2 + j - (p + 2) = j by omega]
        have znm : (s.extract (p + 2) (p + 2 + j)).size ≤ 1000 := by rw [ByteArray.size_extract]; omega
        generalize hne : p + 2 + j = q at *
        have HNE := Lib.hid hne
        have hpq : p + 2 ≤ q := by omega
        have hpqz : (p : Int) + 2 ≤ (q : Int) := by omega
        have hqz : (q : Int) ≤ (s.size : Int) := by omega
        clear hne
        rw [show p + 2 + (j + 1) = q + 1 by have := HNE.out; omega] at hx
        generalize hnme : s.extract (p + 2) q = nm at *
        generalize hnmB : (s.data.toList.drop (p + 2)).take j = nmB at *
        clear hnmB
        have hnmd : nm.data.toList = nmB := by rw [enm, ba_data]
        rw [← hnmd] at hx
        have HX := Lib.hid hx
        clear hx enm hnmd
        go_wp2_with fail
        refine (varMay_any nm w (by omega)).mono ?_
        rintro e w' ⟨rfl, rfl⟩
        cases hvo : varOk nm with
        | false =>
          have hx := HX.out
          rw [valR_bad hvo] at hx
          simp at hx
          have HY := Lib.hid hx
          clear hx
          go_wp2
          go_ret2
          exact ⟨by rw [← HY.out]; rfl, rfl⟩
        | true =>
          go_wp2
          go_loop [14, 15, 16] (fun t is i => LvRel l n nm t is i) (fun _ _ i => n - (intOf i).toNat)
          case atStart => exact ⟨0, Nat.zero_le _, rfl, rfl, rfl⟩
          case round =>
            obtain ⟨m, hm, rfl, rfl, rfl⟩ := hrel.ex
            clear hrel
            by_cases hlt : m < n
            · obtain ⟨v, hv⟩ : ∃ v, l[m]? = some v := ⟨_, List.getElem?_eq_getElem (by rw [HLN.out]; exact hlt)⟩
              obtain ⟨b', off, rfl, _, hc1, hc2⟩ := HR.out.at_ hv
              have hmz : (m : Int) < (n : Int) := by omega
              have hsn := lastV_snoc (l.take m) v nm
              rw [← fk_take_snoc hv] at hsn
              have HSN := Lib.hid hsn
              clear hv hsn
              cases hq : (v.1.toList == nm.toList) with
              | true =>
                have he : v.1 = nm := toList_inj (by simpa using hq)
                have hsn := HSN.out
                rw [if_pos he] at hsn
                have HS2 := Lib.hid hsn
                clear hsn he
                go_wp2
                go_round
                case rel => exact ⟨m + 1, by omega, by go_num, by rw [HS2.out]; rfl, by rw [HS2.out]; rfl⟩
                case measure => simp [intOf]; omega
              | false =>
                have he : v.1 ≠ nm := fun e => by rw [e] at hq; simp at hq
                have hsn := HSN.out
                rw [if_neg he] at hsn
                have HS2 := Lib.hid hsn
                clear hsn he
                go_wp2
                go_round
                case rel => exact ⟨m + 1, by omega, by go_num, by rw [HS2.out], by rw [HS2.out]⟩
                case measure => simp [intOf]; omega
            · obtain rfl : m = n := by omega
              rw [List.take_of_length_le (by rw [HLN.out]; omega)]
              cases hla : lastV l nm with
              | none =>
                have hx := HX.out
                rw [valR_none hvo hla] at hx
                simp at hx
                have HY := Lib.hid hx
                clear hx
                simp only [Option.getD_none, Option.isSome_none]
                go_wp2
                go_ret2
                exact ⟨by rw [← HY.out]; rfl, rfl⟩
              | some t =>
                have hts : t.size ≤ 1000 := by obtain ⟨v, hv, e⟩ := lastV_mem hla; rw [← e]; exact HL.out v hv
                simp only [Option.getD_some, Option.isSome_some]
                have hm2 : valR l k nm.data.toList = match k with | 0 => (9, []) | k' + 1 => expR l k' t.data.toList := by
                  cases k with
                  | zero => exact valR_deep hvo hla
                  | succ k' => exact valR_text hvo hla
                have HV := Lib.hid hm2
                clear hm2 hla hvo
                obtain ⟨d1, hd1⟩ : ∃ d1 : Int, d1 = d + 1 := ⟨_, rfl⟩
                go_wp2_with fail
                rw [← hd1]
                have hcall : Calls Try.prog 34 #[.slice A m c, .string t, .int .i64 d1] w fun e w' => e = .returned (.tuple #[.string (ba (valR l k nm.data.toList).2), .int .i64 (valR l k nm.data.toList).1]) ∧ w = w' := by
                  cases k with
                  | zero =>
                    obtain rfl : d1 = 6 := by have := HD.out; omega
                    rw [HV.out]
                    exact rexp_deep _ _ _
                  | succ k' =>
                    obtain rfl : d1 = 5 - (k' : Int) := by have := HD.out; omega
                    rw [HV.out]
                    exact HREC.out k' rfl _ _ _ _ _ HR.out hn hts
                refine hcall.mono ?_
                clear hcall
                rintro e w' ⟨rfl, rfl⟩
                have hlen : (valR l k nm.data.toList).1 = 0 → (valR l k nm.data.toList).2.length ≤ 600 := by
                  intro h0
                  rw [HV.out] at h0 ⊢
                  cases k with
                  | zero => simp
                  | succ k' => exact expL_len _ _ _ _ (Prod.ext h0 rfl)
                have hx := HX.out
                clear HX HV hd1 HREC
                generalize valR l k nm.data.toList = y at hx hlen ⊢
                obtain ⟨y1, y2⟩ := y
                simp only at hx hlen ⊢
                cases y1 with
                | succ y =>
                  rw [if_neg (by omega)] at hx
                  have HY := Lib.hid hx
                  clear hx hlen
                  have hpos : (0 : Int) < ((y + 1 : Nat) : Int) := by omega
                  obtain ⟨z, hz⟩ : ∃ z : Int, z = ((y + 1 : Nat) : Int) := ⟨_, rfl⟩
                  rw [← hz] at hpos ⊢
                  have HZ := Lib.hid hz
                  clear hz
                  go_wp2
                  go_ret2
                  exact ⟨by rw [← HY.out, HZ.out]; rfl, rfl⟩
                | zero =>
                  have hlen := hlen rfl
                  rw [if_pos rfl] at hx
                  have hb2 : (ba y2).size ≤ 600 := by rw [ba_size]; exact hlen
                  have hsz : ((ba out).size : Int) + (pl.size : Int) + ((ba y2).size : Int) = ((out ++ (plB ++ y2)).length : Int) := by rw [HEPL.out, ba_size, ba_size, ba_size]; simp; omega
                  have hap2 : ba (out ++ (plB ++ y2)) = ba out ++ pl ++ ba y2 := by rw [HEPL.out, ← List.append_assoc, ba_append, ba_append]
                  have HAP := Lib.hid hap2
                  clear hap2
                  simp only [Int.ofNat_zero, Int.natCast_zero]
                  by_cases hq : 600 < (out ++ (plB ++ y2)).length
                  · have t1 : (600 : Int) < ((ba out).size : Int) + (pl.size : Int) + ((ba y2).size : Int) := by rw [hsz]; omega
                    rw [if_pos hq] at hx
                    have HY := Lib.hid hx
                    clear hx hsz hq
                    go_wp2
                    go_ret2
                    exact ⟨by rw [← HY.out]; rfl, rfl⟩
                  · have t1 : decide ((600 : Int) < ((ba out).size : Int) + (pl.size : Int) + ((ba y2).size : Int)) = false := decide_eq_false (by rw [hsz]; omega)
                    rw [if_neg hq] at hx
                    have HY := Lib.hid hx
                    have HQ := Lib.hid hq
                    clear hx hsz hq
                    go_wp2
                    go_round
                    case rel => exact ⟨out ++ (plB ++ y2), q + 1, f, by rw [HAP.out], by go_num, by omega, by omega, by have := HQ.out; omega, HY.out⟩
                    case measure => simp [intOf]; omega
theorem rexp_all (l : List F) (hl : ∀ v ∈ l, v.2.size ≤ 1000) : ∀ k, k ≤ 5 → REXP l k
  | 0, h => rexp_step l hl 0 h (fun _ e => by omega)
  | k + 1, h => rexp_step l hl (k + 1) h (fun k' e => (show k = k' by omega) ▸ rexp_all l hl k (by omega))
/-- hammerpondref.Expanded of a text, from the top. -/
theorem rexp_any (l : List F) (hl : ∀ v ∈ l, v.2.size ≤ 1000) (A : Option Addr) (n c : Nat) (s : ByteArray) (w : World) (h : RdF w w.heap.size A n c l) (hn : n ≤ 1000000) (hs : s.size ≤ 1000) :
    Calls Try.prog 34 #[.slice A n c, .string s, .int .i64 0] w fun e w' => e = .returned (.tuple #[.string (ba (expR l 5 s.data.toList).2), .int .i64 (expR l 5 s.data.toList).1]) ∧ w = w' :=
  rexp_all l hl 5 (Nat.le_refl _) A n c s w h hn hs
end Go.Proofs.Ytocodapegeajoaa
