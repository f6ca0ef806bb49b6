/-
  WALK: the document's Stem (hammerpondref.Stem).
-/
import Derived.Test.YtocodapegeajoaaStem
import Derived.Test.YtocodapegeajoaaFind
import Derived.Lib.Strings
namespace Go.Proofs.Ytocodapegeajoaa
open Go.RowKit

set_option maxHeartbeats 1600000 in
set_option maxRecDepth 100000 in
theorem refStem_any (p n : ByteArray) (w : World) (hp : p.size ≤ 1000000) (hn : n.size ≤ 1000000) :
    Calls Try.prog 38 #[.string p, .string n] w fun e w' => e = .returned (.tuple #[.string (stemR p n).1, .bool (stemR p n).2]) ∧ w = w' := by
  obtain ⟨r, hr⟩ : ∃ r, r = stemR p n := ⟨_, rfl⟩
  rw [← hr]
  unfold stemR at hr
  have hF := find_any p ⟨#[37]⟩ 0 w (by decide) (by decide) (Nat.zero_le _) hp
  have hfr : findR p.data.toList [37] 0 = Lib.index p.data.toList [37] := by unfold findR; rw [List.drop_zero]; split; rename_i e; exact e.symm; simp
  have hge := Lib.index_ge p.data.toList [37]
  have hroom := Lib.index_room p.data.toList [37]
  rw [show (⟨#[37]⟩ : ByteArray).data.toList = [37] from rfl, hfr] at hF
  by_cases h1 : Lib.index p.data.toList [37] = -1
  · have hc := cut_none h1
    rw [show cutB p [37] = (p.data.toList, [], false) from hc] at hr
    rw [if_neg (by simp)] at hr
    rw [h1] at hF
    have HF := Lib.hid hF
    have HR := Lib.hid hr
    clear hF hr h1 hc hfr hge hroom
    go_enter Try.func38, Try.ntmps38
    go_wp2_with (go_at_call 52; refine HF.out.mono ?_; rintro e w' ⟨rfl, rfl⟩)
    go_ret2
    exact ⟨by rw [HR.out]; rfl, rfl⟩
  · obtain ⟨i, hi⟩ : ∃ i : Nat, Lib.index p.data.toList [37] = i := ⟨(Lib.index p.data.toList [37]).toNat, by omega⟩
    have hri := hroom (by omega)
    rw [hi] at hri
    have hil : i + 1 ≤ p.size := by have e : p.data.toList.length = p.size := by simp
                                    simp only [List.length_cons, List.length_nil] at hri; omega
    have hc := cut_at hi
    have ea : (p.extract 0 i).data.toList = p.data.toList.take i := by rw [Lib.extract_data]; simp
    have eb : (p.extract (i + 1) p.size).data.toList = p.data.toList.drop (i + 1) := Lib.extract_to_end p (i + 1)
    rw [show cutB p [37] = ((p.extract 0 i).data.toList, (p.extract (i + 1) p.size).data.toList, true) from by rw [ea, eb]; exact hc] at hr
    rw [hi] at hF
    have sa : (p.extract 0 i).size = i := by simp; omega
    have HF := Lib.hid hF
    clear hF h1 hc hfr hge hroom hri hi ea eb
    have za : (p.extract 0 i).size ≤ 1000000 := by simp; omega
    have zb : (p.extract (i + 1) p.size).size ≤ 1000000 := by simp; omega
    generalize hga : p.extract 0 i = a at *
    generalize hgb : p.extract (i + 1) p.size = b at *
    have la : a.data.toList.length = a.size := by simp
    have lb : b.data.toList.length = b.size := by simp
    dsimp only at hr
    rw [la, lb] at hr
    have hpr := Lib.hasPrefix_raw n a
    have hsr := Lib.hasSuffix_raw n b
    clear la lb sa
    by_cases hlt : a.size + b.size < n.size
    · obtain ⟨m, hm⟩ : ∃ m, n.size = a.size + m + b.size := ⟨n.size - a.size - b.size, by omega⟩
      have hmi : (n.size : Int) - (a.size : Int) - (b.size : Int) = (m : Int) := by omega
      have hm1 : decide ((m : Int) < 1) = false := decide_eq_false (by omega)
      have hm2 : ¬ (m : Int) < 1 := by omega
      have hsb : n.size - b.size = a.size + m := by omega
      rw [decide_eq_true (by omega), Bool.true_and] at hpr hsr
      rw [hsb] at hsr hr
      have HM := Lib.hid hm
      have hmn : a.size + m ≤ n.size := by omega
      have han : a.size ≤ n.size := by omega
      clear hm hsb
      cases hpf : Lib.hasPrefix n.data.toList a.data.toList with
      | false =>
        rw [hpf] at hpr hr
        rw [if_neg (by simp)] at hr
        have HR := Lib.hid hr
        have hpn : ((n.extract 0 a.size).toList != a.toList) = true := by rw [bne, hpr]; rfl
        clear hr hsr hpf
        go_enter Try.func38, Try.ntmps38
        go_wp2_with (go_at_call 52; refine HF.out.mono ?_; rintro e w' ⟨rfl, rfl⟩)
        go_ret2
        exact ⟨by rw [HR.out]; rfl, rfl⟩
      | true =>
        have hpn : ((n.extract 0 a.size).toList != a.toList) = false := by rw [bne, hpr, hpf]; rfl
        rw [hpf] at hpr
        cases hsf : Lib.hasSuffix n.data.toList b.data.toList with
        | false =>
          rw [hsf] at hsr hr
          rw [if_neg (by simp)] at hr
          have hsn : ((n.extract (a.size + m) n.size).toList != b.toList) = true := by rw [bne, hsr]; rfl
          have HR := Lib.hid hr
          clear hr hsf hpf
          go_enter Try.func38, Try.ntmps38
          go_wp2_with (go_at_call 52; refine HF.out.mono ?_; rintro e w' ⟨rfl, rfl⟩)
          go_ret2
          exact ⟨by rw [HR.out]; rfl, rfl⟩
        | true =>
          have hsn : ((n.extract (a.size + m) n.size).toList != b.toList) = false := by rw [bne, hsr, hsf]; rfl
          rw [hsf] at hsr
          rw [if_pos ⟨rfl, hpf, hsf, hlt⟩] at hr
          have HR := Lib.hid hr
          clear hr hsf hpf
          go_enter Try.func38, Try.ntmps38
          go_wp2_with (go_at_call 52; refine HF.out.mono ?_; rintro e w' ⟨rfl, rfl⟩)
          go_ret2
          exact ⟨by rw [HR.out]; rfl, rfl⟩
    · rw [if_neg (fun h => hlt h.2.2.2)] at hr
      have hm2 : (n.size : Int) - (a.size : Int) - (b.size : Int) < 1 := by omega
      have hm1 : decide ((n.size : Int) - (a.size : Int) - (b.size : Int) < 1) = true := decide_eq_true hm2
      have HR := Lib.hid hr
      clear hr hpr hsr
      go_enter Try.func38, Try.ntmps38
      go_wp2_with (go_at_call 52; refine HF.out.mono ?_; rintro e w' ⟨rfl, rfl⟩)
      go_ret2
      exact ⟨by rw [HR.out]; rfl, rfl⟩
end Go.Proofs.Ytocodapegeajoaa
