/-
  WORDS FOR MEMORY: the frame of the document's functions that take a description and give one.
-/
import Derived.Test.YtlkpbpecgdphaaaRefWords
import Derived.Test.YtlkpbpecgdphaaaExpText
import Derived.Test.YtlkpbpecgdphaaaFew
import Derived.Test.YtlkpbpecgdphaaaRefFault
namespace Go.Proofs.Ytlkpbpecgdphaaa
open Go.RowKit

def REXP (l : List F) (k : Nat) : Prop := ∀ (A : Option Addr) (n c : Nat) (s : ByteArray) (w : World), RdF w w.heap.size A n c l → n ≤ 1000000 → s.size ≤ 1000 →
  Calls Try.prog 36 #[.slice A n c, .string s, .int .i64 (5 - (k : Int))] w fun e w' => e = .returned (.tuple #[.string (ba (expR l k s.data.toList).2), .int .i64 (expR l k s.data.toList).1]) ∧ w = w'
set_option maxHeartbeats 1000000 in
theorem rexp_deep (v t : Value) (w : World) : Calls Try.prog 36 #[v, t, .int .i64 6] w fun e w' => e = .returned (.tuple #[.string ⟨#[]⟩, .int .i64 9]) ∧ w = w' := by
  go_enter Try.func36, Try.ntmps36
  go_wp2
  go_ret2
  exact ⟨rfl, rfl⟩
structure RxRel (l : List F) (k : Nat) (r : Nat × Bs) (s : ByteArray) (o a : Value) : Prop where
  ex : ∃ (out : Bs) (at_ fuel : Nat), o = .string (ba out) ∧ a = .int .i64 at_ ∧ at_ ≤ s.size ∧ s.size - at_ < fuel ∧ out.length ≤ 600 ∧ expL (valR l k) fuel out (s.data.toList.drop at_) = r
structure LvRel (l : List F) (n : Nat) (name : ByteArray) (t is i : Value) : Prop where
  ex : ∃ j : Nat, j ≤ n ∧ i = .int .i64 j ∧ t = .string ((lastV (l.take j) name).getD ⟨#[]⟩) ∧ is = .bool (lastV (l.take j) name).isSome
theorem ext_drop (s : ByteArray) (a b : Nat) : s.extract a b = ba ((s.data.toList.drop a).take (b - a)) := by rw [← ba_of (s.extract a b), Lib.extract_data]
theorem fk_take_snoc {l : List F} {k : Nat} {x : F} (h : l[k]? = some x) : l.take (k + 1) = l.take k ++ [x] := by
  have hl := (List.getElem?_eq_some_iff.1 h).1
  rw [List.take_succ_eq_append_getElem hl]
  rw [(List.getElem?_eq_some_iff.1 h).2]

set_option maxHeartbeats 4000000 in
set_option maxRecDepth 100000 in
theorem rexp_step (l : List F) (hl : ∀ v ∈ l, v.2.size ≤ 1000) (k : Nat) (hk : k ≤ 5) (hrec : ∀ k', k = k' + 1 → REXP l k') : REXP l k := by
  intro A n c s w h hn hs
  have HR := Lib.hid h
  have HLN := Lib.hid h.1
  have HL := Lib.hid hl
  have HREC := Lib.hid hrec
  clear h hl hrec
  obtain ⟨r, hr⟩ : ∃ r, r = expR l k s.data.toList := ⟨_, rfl⟩
  rw [← hr]
  unfold expR at hr
  have HX := Lib.hid hr
  clear hr
  obtain ⟨d, hd⟩ : ∃ d : Int, d = 5 - (k : Int) := ⟨_, rfl⟩
  rw [← hd]
  have HD := Lib.hid hd
  have hd5 : decide ((5 : Int) < d) = false := decide_eq_false (by omega)
  have hd0 : 0 ≤ d := by omega
  have hd6 : d ≤ 5 := by omega
  clear hd
  have hsl : s.data.toList.length = s.size := by simp
  have HSL := Lib.hid hsl
  clear hsl
  go_enter Try.func36, Try.ntmps36
  go_wp2
  go_loop [8, 9] (fun o a => RxRel l k r s o a) (fun _ a => s.size + 1 - (intOf a).toNat)
  case atStart => exact ⟨[], 0, s.data.toList.length + 1, rfl, rfl, Nat.zero_le _, by simp, by simp, HX.out.symm⟩
  case round =>
    obtain ⟨out, at_, fuel, rfl, rfl, hat, hfu, hol, hx⟩ := hrel.ex
    clear hrel HX
    obtain ⟨f, rfl⟩ : ∃ f, fuel = f + 1 := ⟨fuel - 1, by omega⟩
    rw [expL] at hx
    have hge := Lib.index_ge (s.data.toList.drop at_) [36, 40]
    have ho1 : (ba out).size ≤ 600 := by rw [ba_size]; exact hol
    go_wp2_with fail
    refine (find_any s ⟨#[36, 40]⟩ at_ w (by decide) (by decide) hat (by omega)).mono ?_
    rintro e w' ⟨rfl, rfl⟩
    rw [show (⟨#[36, 40]⟩ : ByteArray).data.toList = [36, 40] from rfl]
    by_cases hm : Lib.index (s.data.toList.drop at_) [36, 40] = -1
    · rw [show findR s.data.toList [36, 40] at_ = -1 by unfold findR; rw [if_pos hm]]
      rw [cut_none hm] at hx
      simp only [Bool.false_eq_true, if_false] at hx
      have HX := Lib.hid hx
      clear hx hm hge
      have hdl : (s.data.toList.drop at_).length = s.size - at_ := by rw [List.length_drop, HSL.out]
      have e1 : s.extract at_ s.size = ba (s.data.toList.drop at_) := by rw [ext_drop, List.take_of_length_le (by rw [hdl]; omega)]
      have z1 : (s.extract at_ s.size).size ≤ 1000 := by rw [ByteArray.size_extract]; omega
      have hsz : ((ba out).size : Int) + ((s.extract at_ s.size).size : Int) = ((out ++ s.data.toList.drop at_).length : Int) := by rw [e1, ba_size, ba_size]; simp
      have hap : ba (out ++ s.data.toList.drop at_) = ba out ++ s.extract at_ s.size := by rw [ba_append, e1]
      have hatz : (at_ : Int) ≤ (s.size : Int) := by omega
      clear e1 hdl
      generalize hqe : s.extract at_ s.size = q at *
      have HAP := Lib.hid hap
      clear hap
      by_cases hq : 600 < (out ++ s.data.toList.drop at_).length
      · have t1 : (600 : Int) < ((ba out).size : Int) + (q.size : Int) := by rw [hsz]; omega
        have hx := HX.out
        rw [if_pos hq] at hx
        have HY := Lib.hid hx
        clear hx hsz
        go_wp2
        go_ret2
        exact ⟨by rw [← HY.out]; rfl, rfl⟩
      · have t1 : decide ((600 : Int) < ((ba out).size : Int) + (q.size : Int)) = false := decide_eq_false (by rw [hsz]; omega)
        have hx := HX.out
        rw [if_neg hq] at hx
        have HY := Lib.hid hx
        clear hx hsz
        go_wp2
        go_ret2
        exact ⟨by rw [← HY.out, HAP.out]; rfl, rfl⟩
    · obtain ⟨i, ei⟩ : ∃ i : Nat, Lib.index (s.data.toList.drop at_) [36, 40] = i := ⟨(Lib.index (s.data.toList.drop at_) [36, 40]).toNat, by omega⟩
      have hroom := Lib.index_room (s.data.toList.drop at_) [36, 40] (by omega)
      rw [ei, List.length_drop, HSL.out] at hroom
      have hroom' : at_ + i + 2 ≤ s.size := by simp at hroom; omega
      have hfr : findR s.data.toList [36, 40] at_ = ((at_ + i : Nat) : Int) := by unfold findR; rw [if_neg hm, ei]; omega
      rw [hfr]
      rw [cut_at ei] at hx
      simp only [if_true, List.length_cons, List.length_nil, Nat.zero_add, List.drop_drop] at hx
      clear hfr hm hge hroom
      have epl : s.extract at_ (at_ + i) = ba ((s.data.toList.drop at_).take i) := by rw [ext_drop, show at_ + i - at_ = i by omega]
      have zpl : (s.extract at_ (at_ + i)).size ≤ 1000 := by rw [ByteArray.size_extract]; omega
      generalize hpe : at_ + i = p at *
      have HPE := Lib.hid hpe
      have hap : at_ ≤ p := by omega
      have hapz : (at_ : Int) ≤ (p : Int) := by omega
      have hpz : (p : Int) ≤ (s.size : Int) := by omega
      clear hpe
      rw [show at_ + (i + (1 + 1)) = p + 2 by have := HPE.out; omega] at hx
      generalize hple : s.extract at_ p = pl at *
      generalize hplB : (s.data.toList.drop at_).take i = plB at *
      have HX := Lib.hid hx
      have HEPL := Lib.hid epl
      clear hx epl hplB
      have zop : (ba out ++ pl).size ≤ 1600 := by rw [ByteArray.size_append]; omega
      have hpn : p + 2 ≤ 1000 := by omega
      go_wp2_with fail
      have hp2 : (p : Int) + 2 = ((p + 2 : Nat) : Int) := by omega
      rw [hp2]
      refine (find_any s ⟨#[41]⟩ (p + 2) w (by decide) (by decide) (by omega) (by omega)).mono ?_
      rintro e w' ⟨rfl, rfl⟩
      rw [← hp2]
      clear hp2
      rw [show (⟨#[41]⟩ : ByteArray).data.toList = [41] from rfl]
      have hge2 := Lib.index_ge (s.data.toList.drop (p + 2)) [41]
      by_cases hm2 : Lib.index (s.data.toList.drop (p + 2)) [41] = -1
      · rw [show findR s.data.toList [41] (p + 2) = -1 by unfold findR; rw [if_pos hm2]]
        have hx := HX.out
        rw [cut_none hm2] at hx
        simp only [Bool.false_eq_true, if_false] at hx
        have HY := Lib.hid hx
        clear hx hm2 hge2
        go_wp2
        go_ret2
        exact ⟨by rw [← HY.out]; rfl, rfl⟩
      · obtain ⟨j, ej⟩ : ∃ j : Nat, Lib.index (s.data.toList.drop (p + 2)) [41] = j := ⟨(Lib.index (s.data.toList.drop (p + 2)) [41]).toNat, by omega⟩
        have hroom := Lib.index_room (s.data.toList.drop (p + 2)) [41] (by omega)
        rw [ej, List.length_drop, HSL.out] at hroom
        have hroom2 : p + 2 + j + 1 ≤ s.size := by simp at hroom; omega
        rw [show findR s.data.toList [41] (p + 2) = ((p + 2 + j : Nat) : Int) by unfold findR; rw [if_neg hm2, ej]; omega]
        have hx := HX.out
        rw [cut_at ej] at hx
        simp only [if_true, List.length_cons, List.length_nil, Nat.zero_add, List.drop_drop] at hx
        clear hm2 hge2 hroom HX
        have enm : s.extract (p + 2) (p + 2 + j) = ba ((s.data.toList.drop (p + 2)).take j) := by rw [ext_drop, show p + 2 + j - (p + 2) = j by omega]
        have znm : (s.extract (p + 2) (p + 2 + j)).size ≤ 1000 := by rw [ByteArray.size_extract]; omega
        generalize hne : p + 2 + j = q at *
        have HNE := Lib.hid hne
        have hpq : p + 2 ≤ q := by omega
        have hpqz : (p : Int) + 2 ≤ (q : Int) := by omega
        have hqz : (q : Int) ≤ (s.size : Int) := by omega
        clear hne
        rw [show p + 2 + (j + 1) = q + 1 by have := HNE.out; omega] at hx
        generalize hnme : s.extract (p + 2) q = nm at *
        generalize hnmB : (s.data.toList.drop (p + 2)).take j = nmB at *
        clear hnmB
        have hnmd : nm.data.toList = nmB := by rw [enm, ba_data]
        rw [← hnmd] at hx
        have HX := Lib.hid hx
        clear hx enm hnmd
        go_wp2_with fail
        refine (varMay_any nm w (by omega)).mono ?_
        rintro e w' ⟨rfl, rfl⟩
        cases hvo : varOk nm with
        | false =>
          have hx := HX.out
          rw [valR_bad hvo] at hx
          simp at hx
          have HY := Lib.hid hx
          clear hx
          go_wp2
          go_ret2
          exact ⟨by rw [← HY.out]; rfl, rfl⟩
        | true =>
          go_wp2
          go_loop [14, 15, 16] (fun t is i => LvRel l n nm t is i) (fun _ _ i => n - (intOf i).toNat)
          case atStart => exact ⟨0, Nat.zero_le _, rfl, rfl, rfl⟩
          case round =>
            obtain ⟨m, hm, rfl, rfl, rfl⟩ := hrel.ex
            clear hrel
            by_cases hlt : m < n
            · obtain ⟨v, hv⟩ : ∃ v, l[m]? = some v := ⟨_, List.getElem?_eq_getElem (by rw [HLN.out]; exact hlt)⟩
              obtain ⟨b', off, rfl, _, hc1, hc2⟩ := HR.out.at_ hv
              have hmz : (m : Int) < (n : Int) := by omega
              have hsn := lastV_snoc (l.take m) v nm
              rw [← fk_take_snoc hv] at hsn
              have HSN := Lib.hid hsn
              clear hv hsn
              cases hq : (v.1.toList == nm.toList) with
              | true =>
                have he : v.1 = nm := toList_inj (by simpa using hq)
                have hsn := HSN.out
                rw [if_pos he] at hsn
                have HS2 := Lib.hid hsn
                clear hsn he
                go_wp2
                go_round
                case rel => exact ⟨m + 1, by omega, by go_num, by rw [HS2.out]; rfl, by rw [HS2.out]; rfl⟩
                case measure => simp [intOf]; omega
              | false =>
                have he : v.1 ≠ nm := fun e => by rw [e] at hq; simp at hq
                have hsn := HSN.out
                rw [if_neg he] at hsn
                have HS2 := Lib.hid hsn
                clear hsn he
                go_wp2
                go_round
                case rel => exact ⟨m + 1, by omega, by go_num, by rw [HS2.out], by rw [HS2.out]⟩
                case measure => simp [intOf]; omega
            · obtain rfl : m = n := by omega
              rw [List.take_of_length_le (by rw [HLN.out]; omega)]
              cases hla : lastV l nm with
              | none =>
                have hx := HX.out
                rw [valR_none hvo hla] at hx
                simp at hx
                have HY := Lib.hid hx
                clear hx
                simp only [Option.getD_none, Option.isSome_none]
                go_wp2
                go_ret2
                exact ⟨by rw [← HY.out]; rfl, rfl⟩
              | some t =>
                have hts : t.size ≤ 1000 := by obtain ⟨v, hv, e⟩ := lastV_mem hla; rw [← e]; exact HL.out v hv
                simp only [Option.getD_some, Option.isSome_some]
                have hm2 : valR l k nm.data.toList = match k with | 0 => (9, []) | k' + 1 => expR l k' t.data.toList := by
                  cases k with
                  | zero => exact valR_deep hvo hla
                  | succ k' => exact valR_text hvo hla
                have HV := Lib.hid hm2
                clear hm2 hla hvo
                obtain ⟨d1, hd1⟩ : ∃ d1 : Int, d1 = d + 1 := ⟨_, rfl⟩
                go_wp2_with fail
                rw [← hd1]
                have hcall : Calls Try.prog 36 #[.slice A m c, .string t, .int .i64 d1] w fun e w' => e = .returned (.tuple #[.string (ba (valR l k nm.data.toList).2), .int .i64 (valR l k nm.data.toList).1]) ∧ w = w' := by
                  cases k with
                  | zero =>
                    obtain rfl : d1 = 6 := by have := HD.out; omega
                    rw [HV.out]
                    exact rexp_deep _ _ _
                  | succ k' =>
                    obtain rfl : d1 = 5 - (k' : Int) := by have := HD.out; omega
                    rw [HV.out]
                    exact HREC.out k' rfl _ _ _ _ _ HR.out hn hts
                refine hcall.mono ?_
                clear hcall
                rintro e w' ⟨rfl, rfl⟩
                have hlen : (valR l k nm.data.toList).1 = 0 → (valR l k nm.data.toList).2.length ≤ 600 := by
                  intro h0
                  rw [HV.out] at h0 ⊢
                  cases k with
                  | zero => simp
                  | succ k' => exact expL_len _ _ _ _ (Prod.ext h0 rfl)
                have hx := HX.out
                clear HX HV hd1 HREC
                generalize valR l k nm.data.toList = y at hx hlen ⊢
                obtain ⟨y1, y2⟩ := y
                simp only at hx hlen ⊢
                cases y1 with
                | succ y =>
                  rw [if_neg (by omega)] at hx
                  have HY := Lib.hid hx
                  clear hx hlen
                  have hpos : (0 : Int) < ((y + 1 : Nat) : Int) := by omega
                  obtain ⟨z, hz⟩ : ∃ z : Int, z = ((y + 1 : Nat) : Int) := ⟨_, rfl⟩
                  rw [← hz] at hpos ⊢
                  have HZ := Lib.hid hz
                  clear hz
                  go_wp2
                  go_ret2
                  exact ⟨by rw [← HY.out, HZ.out]; rfl, rfl⟩
                | zero =>
                  have hlen := hlen rfl
                  rw [if_pos rfl] at hx
                  have hb2 : (ba y2).size ≤ 600 := by rw [ba_size]; exact hlen
                  have hsz : ((ba out).size : Int) + (pl.size : Int) + ((ba y2).size : Int) = ((out ++ (plB ++ y2)).length : Int) := by rw [HEPL.out, ba_size, ba_size, ba_size]; simp; omega
                  have hap2 : ba (out ++ (plB ++ y2)) = ba out ++ pl ++ ba y2 := by rw [HEPL.out, ← List.append_assoc, ba_append, ba_append]
                  have HAP := Lib.hid hap2
                  clear hap2
                  simp only [Int.ofNat_zero]
                  by_cases hq : 600 < (out ++ (plB ++ y2)).length
                  · have t1 : (600 : Int) < ((ba out).size : Int) + (pl.size : Int) + ((ba y2).size : Int) := by rw [hsz]; omega
                    rw [if_pos hq] at hx
                    have HY := Lib.hid hx
                    clear hx hsz hq
                    go_wp2
                    go_ret2
                    exact ⟨by rw [← HY.out]; rfl, rfl⟩
                  · have t1 : decide ((600 : Int) < ((ba out).size : Int) + (pl.size : Int) + ((ba y2).size : Int)) = false := decide_eq_false (by rw [hsz]; omega)
                    rw [if_neg hq] at hx
                    have HY := Lib.hid hx
                    have HQ := Lib.hid hq
                    clear hx hsz hq
                    go_wp2
                    go_round
                    case rel => exact ⟨out ++ (plB ++ y2), q + 1, f, by rw [HAP.out], by go_num, by omega, by omega, by have := HQ.out; omega, HY.out⟩
                    case measure => simp [intOf]; omega
theorem rexp_all (l : List F) (hl : ∀ v ∈ l, v.2.size ≤ 1000) : ∀ k, k ≤ 5 → REXP l k
  | 0, h => rexp_step l hl 0 h (fun _ e => by omega)
  | k + 1, h => rexp_step l hl (k + 1) h (fun k' e => (show k = k' by omega) ▸ rexp_all l hl k (by omega))
/-- hammerpondref.Expanded of a text, from the top. -/
theorem rexp_any (l : List F) (hl : ∀ v ∈ l, v.2.size ≤ 1000) (A : Option Addr) (n c : Nat) (s : ByteArray) (w : World) (h : RdF w w.heap.size A n c l) (hn : n ≤ 1000000) (hs : s.size ≤ 1000) :
    Calls Try.prog 36 #[.slice A n c, .string s, .int .i64 0] w fun e w' => e = .returned (.tuple #[.string (ba (expR l 5 s.data.toList).2), .int .i64 (expR l 5 s.data.toList).1]) ∧ w = w' :=
  rexp_all l hl 5 (Nat.le_refl _) A n c s w h hn hs
end Go.Proofs.Ytlkpbpecgdphaaa
namespace Go.Proofs.Ytlkpbpecgdphaaa
open Go.RowKit

/-- The two descriptions of the frame: the parameter's, at w.heap.size, and the result's, behind it. -/
structure Hd (w W : World) (vv vr vp : Value) : Prop where
  kx : W.heap[w.heap.size]? = some (.cells #[vv, vr, vp] 36 (0, 0))
  ky : W.heap[w.heap.size + 1]? = some (.cells #[.slice none 0 0, .slice none 0 0, .slice none 0 0] 36 (0, 0))
  bel : Below w.heap.size w W
section
variable {w W : World} {vv vr vp : Value}
theorem Hd.start (w : World) (vv vr vp : Value) : Hd w ((w.alloc (.cells #[vv, vr, vp] 36)).alloc (.cells #[.slice none 0 0, .slice none 0 0, .slice none 0 0] 36)) vv vr vp :=
  ⟨(Below.heap_alloc _ _ _ (by simp)).trans (World.alloc_heap_new _ _), by
    have := World.alloc_heap_new (w.alloc (.cells #[vv, vr, vp] 36)) (.cells #[.slice none 0 0, .slice none 0 0, .slice none 0 0] 36)
    rwa [World.size_alloc] at this, ((Below.refl _ _).alloc (Nat.le_refl _) _).alloc (by simp) _⟩
theorem Hd.lt (h : Hd w W vv vr vp) : w.heap.size + 1 < W.heap.size := (Array.getElem?_eq_some_iff.1 h.ky).1
theorem Hd.below (h : Hd w W vv vr vp) {W' : World} (hb : Below W.heap.size W W') : Hd w W' vv vr vp :=
  ⟨(hb.block _ (by have := h.lt; omega)).trans h.kx, (hb.block _ h.lt).trans h.ky, h.bel.trans (hb.mono h.bel.size)⟩
theorem Hd.cells (h : Hd w W vv vr vp) : W.cell? ⟨w.heap.size, 0, none⟩ = some vv ∧ W.cell? ⟨w.heap.size, 1, none⟩ = some vr ∧ W.cell? ⟨w.heap.size, 2, none⟩ = some vp ∧ W.cell? ⟨w.heap.size + 1, 0, none⟩ = some (.slice none 0 0) ∧ W.cell? ⟨w.heap.size + 1, 1, none⟩ = some (.slice none 0 0) ∧ W.cell? ⟨w.heap.size + 1, 2, none⟩ = some (.slice none 0 0) ∧
    W.frozen? ⟨w.heap.size + 1, 0, none⟩ = false ∧ W.frozen? ⟨w.heap.size + 1, 1, none⟩ = false ∧ W.frozen? ⟨w.heap.size + 1, 2, none⟩ = false := by
  have kx := h.kx
  have ky := h.ky
  refine ⟨?_, ?_, ?_, ?_, ?_, ?_, ?_, ?_, ?_⟩ <;> simp [World.cell?, World.frozen?, kx, ky]
theorem Hd.grown (h : Hd w W vv vr vp) : W.grownBy (((W.setCell ⟨w.heap.size + 1, 0, none⟩ vv).setCell ⟨w.heap.size + 1, 1, none⟩ vr).setCell ⟨w.heap.size + 1, 2, none⟩ vp) (some (w.heap.size + 1)) := (set3 h.ky vv vr vp).2
theorem Hd.ret (h : Hd w W vv vr vp) : (((W.setCell ⟨w.heap.size + 1, 0, none⟩ vv).setCell ⟨w.heap.size + 1, 1, none⟩ vr).setCell ⟨w.heap.size + 1, 2, none⟩ vp).cell? ⟨w.heap.size + 1, 0, none⟩ = some vv ∧
    (((W.setCell ⟨w.heap.size + 1, 0, none⟩ vv).setCell ⟨w.heap.size + 1, 1, none⟩ vr).setCell ⟨w.heap.size + 1, 2, none⟩ vp).cell? ⟨w.heap.size + 1, 1, none⟩ = some vr ∧
    (((W.setCell ⟨w.heap.size + 1, 0, none⟩ vv).setCell ⟨w.heap.size + 1, 1, none⟩ vr).setCell ⟨w.heap.size + 1, 2, none⟩ vp).cell? ⟨w.heap.size + 1, 2, none⟩ = some vp ∧
    Below w.heap.size w (((W.setCell ⟨w.heap.size + 1, 0, none⟩ vv).setCell ⟨w.heap.size + 1, 1, none⟩ vr).setCell ⟨w.heap.size + 1, 2, none⟩ vp) := by
  obtain ⟨h1, h2⟩ := set3 h.ky vv vr vp
  refine ⟨by simp [World.cell?, h1], by simp [World.cell?, h1], by simp [World.cell?, h1], h.bel.grown h2 h.bel.size (fun k hk => by injection hk with hk; omega)⟩
end
section
variable {w W : World} {vv vr vp : Value}
theorem Hd.setV (h : Hd w W vv vr vp) (v' : Value) : Hd w (W.setCell ⟨w.heap.size, 0, none⟩ v') v' vr vp :=
  ⟨(heap_set3 h.kx v').1, ((grown_set W w.heap.size 0 v').block _ h.lt (fun e => by injection e with e; omega)).trans h.ky, h.bel.grown (grown_set W w.heap.size 0 v') h.bel.size (fun k hk => by injection hk with hk; omega)⟩
theorem Hd.setR (h : Hd w W vv vr vp) (v' : Value) : Hd w (W.setCell ⟨w.heap.size, 1, none⟩ v') vv v' vp :=
  ⟨(heap_set3 h.kx v').2.1, ((grown_set W w.heap.size 1 v').block _ h.lt (fun e => by injection e with e; omega)).trans h.ky, h.bel.grown (grown_set W w.heap.size 1 v') h.bel.size (fun k hk => by injection hk with hk; omega)⟩
theorem Hd.setP (h : Hd w W vv vr vp) (v' : Value) : Hd w (W.setCell ⟨w.heap.size, 2, none⟩ v') vv vr v' :=
  ⟨(heap_set3 h.kx v').2.2, ((grown_set W w.heap.size 2 v').block _ h.lt (fun e => by injection e with e; omega)).trans h.ky, h.bel.grown (grown_set W w.heap.size 2 v') h.bel.size (fun k hk => by injection hk with hk; omega)⟩
theorem Hd.own (h : Hd w W vv vr vp) (j : Nat) (v' : Value) {B s n : Nat} {e : TypeId} {v : Value} {xs : List Value} (ho : W.ownsRow B e s v n xs) (he : 36 ≠ e) : (W.setCell ⟨w.heap.size, j, none⟩ v').ownsRow B e s v n xs :=
  ho.kept (grown_set W w.heap.size j v') (.inr (Ne.symm (row_not_blk ho h.kx he)))
theorem Hd.ownRet (h : Hd w W vv vr vp) {B s n : Nat} {e : TypeId} {v : Value} {xs : List Value} (ho : W.ownsRow B e s v n xs) (he : 36 ≠ e) : (((W.setCell ⟨w.heap.size + 1, 0, none⟩ vv).setCell ⟨w.heap.size + 1, 1, none⟩ vr).setCell ⟨w.heap.size + 1, 2, none⟩ vp).ownsRow B e s v n xs :=
  ho.kept h.grown (.inr (Ne.symm (row_not_blk ho h.ky he)))
end
/-- A rule in a block of its own, laid since w2. -/
structure RuCut (w2 wx : World) (b : Nat) (v3 v4 : Value) (T N : List ByteArray) : Prop where
  blk : wx.heap[b]? = some (.cells #[v3, v4, .slice none 0 0] 81 (0, 0))
  le : w2.heap.size ≤ b
  t : Own1 wx w2.heap.size v3 T
  n : Own1 wx w2.heap.size v4 N
  bel : Below w2.heap.size w2 wx
theorem RuCut.stored {w2 w4 : World} {b : Nat} {v3 v4 : Value} {T N : List ByteArray} (k : w4.heap[b]? = some (.cells #[.slice none 0 0, .slice none 0 0, .slice none 0 0] 81 (0, 0))) (hle : w2.heap.size ≤ b) (h3 : Own1 w4 w2.heap.size v3 T) (h4 : Own1 w4 w2.heap.size v4 N) (hb : Below w2.heap.size w2 w4) :
    RuCut w2 (((w4.setCell ⟨b, 0, none⟩ v3).setCell ⟨b, 1, none⟩ v4).setCell ⟨b, 2, none⟩ (.slice none 0 0)) b v3 v4 T N := by
  obtain ⟨h1, h2⟩ := set3 k v3 v4 (.slice none 0 0)
  exact ⟨h1, hle, h3.kept h2 (.inr (Ne.symm (row_not_blk h3 k (by decide)))), h4.kept h2 (.inr (Ne.symm (row_not_blk h4 k (by decide)))), hb.grown h2 hb.size (fun j hj => by injection hj with hj; omega)⟩
theorem RuCut.laid {w2 w4 : World} {v3 v4 : Value} {T N : List ByteArray} (h3 : Own1 w4 w2.heap.size v3 T) (h4 : Own1 w4 w2.heap.size v4 N) (hb : Below w2.heap.size w2 w4) :
    RuCut w2 (w4.alloc (.cells #[v3, v4, .slice none 0 0] 81)) w4.heap.size v3 v4 T N :=
  have hba : Below w4.heap.size w4 (w4.alloc (.cells #[v3, v4, .slice none 0 0] 81)) := (Below.refl _ _).alloc (Nat.le_refl _) _
  ⟨World.alloc_heap_new _ _, hb.size, rdS_below h3 hba, rdS_below h4 hba, hb.trans (hba.mono hb.size)⟩
theorem RuCut.below {w2 wx wy : World} {b : Nat} {v3 v4 : Value} {T N : List ByteArray} (h : RuCut w2 wx b v3 v4 T N) (hb : Below wx.heap.size wx wy) : RuCut w2 wy b v3 v4 T N :=
  ⟨(hb.block _ (Array.getElem?_eq_some_iff.1 h.blk).1).trans h.blk, h.le, rdS_below h.t hb, rdS_below h.n hb, h.bel.trans (hb.mono h.bel.size)⟩
theorem RuCut.cells {w2 wx : World} {b : Nat} {v3 v4 : Value} {T N : List ByteArray} (h : RuCut w2 wx b v3 v4 T N) : wx.cell? ⟨b, 0, none⟩ = some v3 ∧ wx.cell? ⟨b, 1, none⟩ = some v4 ∧ wx.cell? ⟨b, 2, none⟩ = some (.slice none 0 0) := by
  have k := h.blk
  refine ⟨?_, ?_, ?_⟩ <;> simp [World.cell?, k]
theorem zrule {w : World} {b : Nat} (k : w.heap[b]? = some (.cells #[.slice none 0 0, .slice none 0 0, .slice none 0 0] 81 (0, 0))) : w.cell? ⟨b, 0, none⟩ = some (.slice none 0 0) ∧ w.cell? ⟨b, 1, none⟩ = some (.slice none 0 0) ∧ w.cell? ⟨b, 2, none⟩ = some (.slice none 0 0) ∧ w.frozen? ⟨b, 0, none⟩ = false ∧ w.frozen? ⟨b, 1, none⟩ = false ∧ w.frozen? ⟨b, 2, none⟩ = false := by
  refine ⟨?_, ?_, ?_, ?_, ?_, ?_⟩ <;> simp [World.cell?, World.frozen?, k]

theorem pat_yes {s : ByteArray} (h : patB s = true) : ∃ i : Nat, findR s.data.toList [37] 0 = i := by
  rw [← contains37] at h
  unfold findR
  rw [List.drop_zero]
  have hge := Lib.index_ge s.data.toList [37]
  have h1 : Lib.index s.data.toList [37] ≠ -1 := by
    intro e
    unfold Lib.contains at h
    rw [e] at h
    simp at h
  rw [if_neg h1]
  exact ⟨(Lib.index s.data.toList [37]).toNat, by omega⟩
theorem pat_no {s : ByteArray} (h : patB s = false) : findR s.data.toList [37] 0 = -1 := by
  rw [← contains37] at h
  unfold findR
  rw [List.drop_zero]
  have hge := Lib.index_ge s.data.toList [37]
  have h1 : Lib.index s.data.toList [37] = -1 := by
    unfold Lib.contains at h
    simp at h
    omega
  rw [if_pos h1]
def PtRel (T : List ByteArray) (p i : Value) : Prop := ∃ k : Nat, k ≤ T.length ∧ i = .int .i64 k ∧ p = .bool ((T.take k).any patB)
theorem anyPat_snoc {T : List ByteArray} {k : Nat} {x : ByteArray} (h : T[k]? = some x) : (T.take (k + 1)).any patB = ((T.take k).any patB || patB x) := by rw [take_snocT h, List.any_append]; simp
structure ShRel (wX : World) (all : List ByteArray) (pat : Bool) (i : Value) (wr : World) : Prop where
  ex : ∃ k : Nat, k ≤ all.length ∧ i = .int .i64 k ∧ (∀ j x, j < k → all[j]? = some x → wordOk all pat j x = true) ∧ ∃ q, wr = wX.drewN q

end Go.Proofs.Ytlkpbpecgdphaaa
