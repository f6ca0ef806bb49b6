/-
  WALK: expand.Stem, for texts of at most a million bytes.
-/
import Derived.Test.YtocodapegeajoaaMax
namespace Go.Proofs.Ytocodapegeajoaa
open Go.RowKit

/-- What Stem comes to. -/
def stemR (p n : ByteArray) : ByteArray × Bool :=
  if (cutB p [37]).2.2 = true ∧ Lib.hasPrefix n.data.toList (cutB p [37]).1 = true ∧ Lib.hasSuffix n.data.toList (cutB p [37]).2.1 = true ∧ (cutB p [37]).1.length + (cutB p [37]).2.1.length < n.size then
    (n.extract (cutB p [37]).1.length (n.size - (cutB p [37]).2.1.length), true) else (⟨#[]⟩, false)
theorem suffix_len {s p : Bs} (h : Lib.hasSuffix s p = true) : p.length ≤ s.length := by
  rw [Lib.hasSuffix, List.isSuffixOf_iff_suffix] at h
  exact h.length_le
theorem prefix_len {s p : Bs} (h : Lib.hasPrefix s p = true) : p.length ≤ s.length := by
  rw [Lib.hasPrefix, List.isPrefixOf_iff_prefix] at h
  exact h.length_le

set_option maxHeartbeats 1000000 in
set_option maxRecDepth 100000 in
theorem stem_any (p n : ByteArray) (w : World) (hp : p.size ≤ 1000000) (hn : n.size ≤ 1000000) (hm : MaxOk w) :
    Calls Try.prog 37 #[.string p, .string n] w fun e w' => e = .returned (.tuple #[.string (stemR p n).1, .bool (stemR p n).2]) ∧ Below w.heap.size w w' := by
  have HM := Lib.hid hm
  clear hm
  obtain ⟨r, hr⟩ : ∃ r, r = stemR p n := ⟨_, rfl⟩
  rw [← hr]
  unfold stemR at hr
  have HR := Lib.hid hr
  clear hr
  go_enter Try.func37, Try.ntmps37
  go_wp2_with fail
  refine (cut_any p ⟨#[37]⟩ [37] rfl w hp HM.out).mono ?_
  rintro e w' ⟨k, rfl, rfl⟩
  have HB := Lib.hid (below_drewN w k)
  obtain ⟨w1, hw1⟩ : ∃ w1, w1 = w.drewN k := ⟨_, rfl⟩
  rw [← hw1] at HB ⊢
  clear hw1
  revert HR
  generalize cutB p [37] = c
  obtain ⟨a, b, f⟩ := c
  intro HR
  have ha := ba_size a
  have hb := ba_size b
  dsimp only at HR ⊢
  cases f with
  | false =>
    go_wp2
    go_ret2
    have e1 := HR.out
    rw [if_neg (by simp)] at e1
    exact ⟨by rw [e1]; rfl, HB.out⟩
  | true =>
    go_wp2_with fail
    refine (Try.strings_HasPrefix n (ba a) _).mono ?_
    rintro e w' ⟨rfl, rfl⟩
    rw [ba_data]
    cases hpf : Lib.hasPrefix n.data.toList a with
    | false =>
      go_wp2
      go_ret2
      have e1 := HR.out
      rw [if_neg (by simp [hpf])] at e1
      exact ⟨by rw [e1]; rfl, HB.out⟩
    | true =>
      have hpl := prefix_len hpf
      go_wp2_with fail
      refine (Try.strings_HasSuffix n (ba b) _ (by omega)).mono ?_
      rintro e w' ⟨rfl, rfl⟩
      rw [ba_data]
      cases hsf : Lib.hasSuffix n.data.toList b with
      | false =>
        go_wp2
        go_ret2
        have e1 := HR.out
        rw [if_neg (by simp [hsf])] at e1
        exact ⟨by rw [e1]; rfl, HB.out⟩
      | true =>
        have hsl := suffix_len hsf
        have hnl : n.data.toList.length = n.size := by simp
        rw [hnl] at hpl hsl
        obtain ⟨d, hd⟩ : ∃ d : Nat, d = n.size - b.length := ⟨_, rfl⟩
        have hw : ((n.size : Int) - ((ba b).size : Int) + 9223372036854775808) % 18446744073709551616 - 9223372036854775808 = (d : Int) := by omega
        by_cases hq : d ≤ a.length
        · have t1 : (d : Int) ≤ ((ba a).size : Int) := by omega
          go_wp2
          go_ret2
          have e1 := HR.out
          rw [if_neg (by omega)] at e1
          exact ⟨by rw [e1]; rfl, HB.out⟩
        · have t1 : decide ((d : Int) ≤ ((ba a).size : Int)) = false := decide_eq_false (by omega)
          go_wp2
          go_ret2
          have e1 := HR.out
          rw [if_pos (by refine ⟨by trivial, hpf, hsf, by omega⟩)] at e1
          exact ⟨by rw [e1]; first | rfl | simp [ha, hd], HB.out⟩
end Go.Proofs.Ytocodapegeajoaa
