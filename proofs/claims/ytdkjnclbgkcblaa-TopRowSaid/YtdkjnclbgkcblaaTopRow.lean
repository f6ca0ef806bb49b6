/-
  WALK: hammerpondtop.TopRow: true for every list of changes and every two changes.
-/
import Derived.Test.YtdkjnclbgkcblaaTr
import Derived.Deep.RegionHeld3
namespace Go.Proofs.Ytdkjnclbgkcblaa
open Go.RowKit

theorem RdC.two (W : World) (a b : Ch) (t : TypeId) : RdC (W.alloc (.cells #[.string a.key, .string a.val, .bool a.gone, .string b.key, .string b.val, .bool b.gone] t)) (W.heap.size + 1) (some ⟨W.heap.size, 0, none⟩) 2 2 [a, b] := by
  have h := Blk.new W t #[.string a.key, .string a.val, .bool a.gone, .string b.key, .string b.val, .bool b.gone]
  refine ⟨rfl, Nat.le_refl _, by unfold maxLen; omega, fun _ => ⟨W.heap.size, 0, rfl, by omega, fun i f hi => ?_⟩⟩
  match i, hi with
  | 0, hi => simp at hi; subst hi; exact ⟨h.cell 0, h.cell 1, h.cell 2⟩
  | 1, hi => simp at hi; subst hi; exact ⟨h.cell 3, h.cell 4, h.cell 5⟩
  | i + 2, hi => simp at hi
theorem RdC.single (W : World) (a : Ch) (t : TypeId) : RdC (W.alloc (.cells #[.string a.key, .string a.val, .bool a.gone] t)) (W.heap.size + 1) (some ⟨W.heap.size, 0, none⟩) 1 1 [a] := by
  have h := Blk.new W t #[.string a.key, .string a.val, .bool a.gone]
  refine ⟨rfl, Nat.le_refl _, by unfold maxLen; omega, fun _ => ⟨W.heap.size, 0, rfl, by omega, fun i f hi => ?_⟩⟩
  match i, hi with
  | 0, hi => simp at hi; subst hi; exact ⟨h.cell 0, h.cell 1, h.cell 2⟩
  | i + 1, hi => simp at hi
theorem TR.six {w W : World} {a b : Ch} {A : Option Addr} {n c : Nat} {l : List Ch} (h : TR w a b A n c l W) : W.cell? ⟨w.heap.size, 0, none⟩ = some (.string a.key) ∧ W.cell? ⟨w.heap.size, 1, none⟩ = some (.string a.val) ∧ W.cell? ⟨w.heap.size, 2, none⟩ = some (.bool a.gone) ∧ W.cell? ⟨w.heap.size + 1, 0, none⟩ = some (.string b.key) ∧ W.cell? ⟨w.heap.size + 1, 1, none⟩ = some (.string b.val) ∧ W.cell? ⟨w.heap.size + 1, 2, none⟩ = some (.bool b.gone) := ⟨h.a0, h.a1, h.a2, h.b0, h.b1, h.b2⟩
theorem RdC.alloc {W : World} {A : Option Addr} {n c B : Nat} {l : List Ch} (h : RdC W B A n c l) (hB : B ≤ W.heap.size) (o : Obj) : RdC (W.alloc o) (W.alloc o).heap.size A n c l := (h.below ((Below.refl _ _).alloc hB o)).more (by simp; omega)
theorem RdC.drew {W : World} {A : Option Addr} {n c B : Nat} {l : List Ch} (h : RdC W B A n c l) : RdC W.drew B A n c l := h
theorem ends_same {a b : Ch} (h : a.key = b.key) (o : List Ch) (k : ByteArray) : ends ((o ++ [a, b]).filter (keyIs k)) = ends ((o ++ [b]).filter (keyIs k)) := by
  rw [List.filter_append, List.filter_append, ends_append, ends_append]
  have e : keyIs k a = keyIs k b := by unfold keyIs; rw [h]
  cases q : keyIs k b with
  | true => simp [q, e, ends]
  | false => simp [q, e]
theorem ends_swap {a b : Ch} (h : a.key ≠ b.key) (o : List Ch) (k : ByteArray) : ends ((o ++ [a, b]).filter (keyIs k)) = ends ((o ++ [b, a]).filter (keyIs k)) := by
  rw [List.filter_append, List.filter_append, ends_append, ends_append]
  cases q : keyIs k b with
  | true =>
    cases r : keyIs k a with
    | true =>
      unfold keyIs at q r
      rw [beq_iff_eq] at q r
      exact absurd (r.trans q.symm) h
    | false => simp [q, r]
  | false =>
    cases r : keyIs k a with
    | true => simp [q, r]
    | false => simp [q, r]
def TrRel (w : World) (a b : Ch) (A : Option Addr) (n c : Nat) (l : List Ch) (vr vi : Value) (wr : World) : Prop := ∃ (k : Nat) (rows : List Ch) (Ar : Option Addr) (nr cr : Nat), k ≤ n ∧ vi = .int .i64 k ∧ vr = .slice Ar nr cr ∧ RdC wr wr.heap.size Ar nr cr rows ∧ ApplyOf (l.take k) rows ∧ TR w a b A n c l wr
set_option maxHeartbeats 2000000 in
set_option maxRecDepth 100000 in
theorem topRow_any (A : Option Addr) (n c : Nat) (l : List Ch) (a b : Ch) (w : World) (h : RdC w w.heap.size A n c l) :
    Calls Try.prog 8 #[.slice A n c, a.v, b.v] w fun e w' => e = .returned (.bool true) ∧ Below w.heap.size w w' := by
  have hfa : ∀ W, Calls Try.prog 30 #[.agg #[.string ⟨#[102, 47, 97]⟩, .string ⟨#[]⟩, .bool true]] W fun e w' => e = .returned (.tuple #[.string ⟨#[1, 3, 102, 47, 97]⟩, .nilIface]) ∧ Below W.heap.size W w' := fun W => by
    have := rowBytes_any ⟨⟨#[102, 47, 97]⟩, ⟨#[]⟩, true⟩ W (by show 3 ≤ 1000000; omega) (by show 0 ≤ 1000000; omega)
    rw [enc_fa] at this
    exact this
  have HFA := Lib.hid hfa
  have HT0 := Lib.hid (TR.start (a := a) (b := b) h 54)
  have hlen := h.1
  have hnc := h.2.1
  have hcm := h.2.2.1
  unfold maxLen at hcm
  have HLEN := Lib.hid hlen
  clear hfa h hlen
  unfold Ch.v
  go_enter Try.func8, Try.ntmps8
  go_wp2_with fail
  generalize ((w.alloc (.cells #[.string a.key, .string a.val, .bool a.gone] 54)).alloc (.cells #[.string b.key, .string b.val, .bool b.gone] 54)) = W0 at *
  refine (HFA.out _).mono ?_
  rintro e w1 ⟨rfl, hb1⟩
  have HT1 := Lib.hid (HT0.out.step hb1)
  clear hb1 HT0 HFA
  go_wp2_with fail
  refine (lightChanges_any A n c l 30 w.heap.size w1 HT1.out.rd (by omega)).mono ?_
  rintro e w1' ⟨r, rfl, hlit, rfl⟩
  cases r with
  | false =>
    go_wp2
    go_ret
    exact ⟨rfl, HT1.out.bel⟩
  | true =>
    have HL := Lib.hid (hlit rfl)
    obtain ⟨a0, a1, a2, b0, b1, b2, _, _, hsz⟩ := HT1.out
    clear hlit
    go_wp2_with fail
    refine (lightChanges_any (some ⟨w1.heap.size, 0, none⟩) 2 2 [a, b] 2 (w1.heap.size + 1) _ (RdC.two w1 a b 54) (by omega)).mono ?_
    rintro e w2' ⟨r2, rfl, hlit2, rfl⟩
    have HT2 := Lib.hid (HT1.out.alloc (.cells #[.string a.key, .string a.val, .bool a.gone, .string b.key, .string b.val, .bool b.gone] 54))
    clear a0 a1 a2 b0 b1 b2 hsz HT1
    generalize w1.alloc (.cells #[.string a.key, .string a.val, .bool a.gone, .string b.key, .string b.val, .bool b.gone] 54) = w2 at *
    cases r2 with
    | false =>
      go_wp2
      go_ret
      exact ⟨rfl, HT2.out.bel⟩
    | true =>
      obtain ⟨_, hsml⟩ := hlit2 rfl
      have hsa := hsml a (by simp)
      have hsb := hsml b (by simp)
      have HSA := Lib.hid hsa
      have HSB := Lib.hid hsb
      have HCA := Lib.hid (fun W => check_any a W (by omega))
      have HCB := Lib.hid (fun W => check_any b W (by omega))
      obtain ⟨a0, a1, a2, b0, b1, b2, _, _, hsz⟩ := HT2.out
      clear hlit2 hsml hsa hsb
      unfold Ch.v at *
      by_cases hca : ckR a = 0
      · rw [hca] at HCA
        go_wp2_with fail
        refine (HCA.out _).mono ?_
        rintro e w3 ⟨rfl, hb3⟩
        rw [show erV 0 = .nilIface from rfl]
        have HT3 := Lib.hid (HT2.out.step hb3)
        clear a0 a1 a2 b0 b1 b2 hsz hb3 HT2 HCA
        obtain ⟨a0, a1, a2, b0, b1, b2, _, _, hsz⟩ := HT3.out
        by_cases hcb : ckR b = 0
        · rw [hcb] at HCB
          go_wp2_with fail
          refine (HCB.out _).mono ?_
          rintro e w4 ⟨rfl, hb4⟩
          rw [show erV 0 = .nilIface from rfl]
          have HT4 := Lib.hid (HT3.out.step hb4)
          clear a0 a1 a2 b0 b1 b2 hsz hb4 HT3 HCB
          obtain ⟨a0, a1, a2, b0, b1, b2, _, _, hsz⟩ := HT4.out
          have hby := rowBytes_any a w4 (by have := HSA.out; omega) (by have := HSA.out; omega)
          have hen : encV a = .tuple #[.string (encR a), .nilIface] := if_pos hca
          rw [hen] at hby
          have hpr := fun W => parse_any (encR a) W (by
            have h1 := encR_list a
            have h2 := HSA.out
            have h3 : (encR a).size = (encR a).data.toList.length := by rw [Array.length_toList]; rfl
            rw [h3, h1]
            simp only [List.length_cons, List.length_append, Array.length_toList]
            show a.key.size + a.val.size + 1 + 1 ≤ 1000000
            omega)
          have hpv : parV (encR a) = .tuple #[a.v, .nilIface] := by
            unfold parV
            rw [if_pos (par_enc hca).1, (par_enc hca).2]
          rw [hpv] at hpr
          unfold Ch.v at hpr hby
          have HBY := Lib.hid hby
          have HPR := Lib.hid hpr
          clear hby hpr hen hpv
          generalize encR a = ea at *
          go_wp2_with fail
          refine HBY.out.mono ?_
          rintro e w5 ⟨rfl, hb5⟩
          have HT5 := Lib.hid (HT4.out.step hb5)
          clear a0 a1 a2 b0 b1 b2 hsz hb5 HT4 HBY
          go_wp2_with fail
          refine (HPR.out _).mono ?_
          rintro e w6 ⟨rfl, hb6⟩
          have HT6 := Lib.hid (HT5.out.step hb6)
          clear hb6 HT5 HPR
          have HT7 := Lib.hid (HT6.out.alloc (.cells #[.string a.key, .string a.val, .bool a.gone] 54))
          obtain ⟨a0, a1, a2, b0, b1, b2, _, _, hsz⟩ := HT7.out
          have hx := StC.new w6 a.key a.val a.gone 54
          have x0 := hx.c0
          have x1 := hx.c1
          have x2 := hx.c2
          clear hx
          go_wp2
          clear a0 a1 a2 b0 b1 b2 x0 x1 x2 hsz HT6
          generalize w6.alloc (.cells #[.string a.key, .string a.val, .bool a.gone] 54) = w7 at *
          go_loopw [10, 11] (fun vr vi wr => TrRel w a b A n c l vr vi wr) (fun _ vi _ => n - (intOf vi).toNat)
          case atStart => exact ⟨0, [], none, 0, 0, Nat.zero_le _, rfl, rfl, RdC.nil _ _, by simpa using ApplyOf.nil, HT7.out⟩
          case round =>
            clear HT7
            obtain ⟨k, rows, Ar, nr, cr, hk, rfl, rfl, hrd, hap, ht⟩ := hrel
            have HR := Lib.hid hrd
            have HA := Lib.hid hap
            have HT := Lib.hid ht
            have hnr : nr ≤ 30 := by
              have h1 := hap.len
              have h2 := HL.out.1
              have h3 := hrd.1
              rw [List.length_take] at h1
              omega
            have hn30 : n ≤ 30 := by have := HL.out.1; rw [HLEN.out] at this; exact this
            clear hrd hap ht
            by_cases hlt : k < n
            · obtain ⟨f, hf⟩ : ∃ f, l[k]? = some f := ⟨_, List.getElem?_eq_getElem (by rw [HLEN.out]; exact hlt)⟩
              obtain ⟨b', off, rfl, hbb, q0, q1, q2⟩ := HT.out.rd.at_ hf
              have hsf := HL.out.2 f (List.mem_of_getElem? hf)
              have HCF := Lib.hid (fun W => check_any f W (by omega))
              have hone := HT.out.rd.one hf
              have HO := Lib.hid hone
              have HF := Lib.hid hf
              unfold Ch.v at HCF
              clear hone hf hsf
              have kz : (k : Int) < (n : Int) := by omega
              by_cases hcf : ckR f = 0
              · rw [hcf] at HCF
                go_wp2_with fail
                refine (HCF.out _).mono ?_
                rintro e w8 ⟨rfl, hb8⟩
                rw [show erV 0 = .nilIface from rfl]
                have HT8 := Lib.hid (HT.out.step hb8)
                have HR8 := Lib.hid ((HR.out.below hb8).more hb8.size)
                have HO8 := Lib.hid ((HO.out.below (hb8.mono (by have := HT.out.sz; omega))).more (show w.heap.size ≤ w8.heap.size by have := HT.out.sz; have := hb8.size; omega))
                clear q0 q1 q2 hb8 HCF HO HR HT
                have HAP := Lib.hid (apply_any Ar (some ⟨b', off + k * 3, none⟩) nr cr 1 (c - k) rows [f] w8 HR8.out HO8.out (by omega))
                have d1 : ((k : Int) + 1).toNat = k + 1 := by omega
                have d2 : (k : Int) ≤ (k : Int) + 1 := by omega
                have d3 : (k : Int) + 1 ≤ (c : Int) := by omega
                go_wp2_with fail
                refine HAP.out.mono ?_
                rintro e w9 ⟨v, out, rfl, hown, hao, hb9⟩
                obtain ⟨A2, c2, rfl, hr9⟩ := RdC.of_own hown
                have HT9 := Lib.hid (HT8.out.step hb9)
                have HR9 := Lib.hid hr9
                have hao2 : ApplyOf (l.take (k + 1)) out := by
                  rw [List.take_add_one, HF.out]
                  exact HA.out.step hao
                have HA9 := Lib.hid hao2
                clear hown hao hb9 hr9 hao2 HAP HT8 HR8 HO8
                go_wp2
                go_roundw
                case rel => exact ⟨k + 1, out, A2, out.length, c2, by omega, by go_num, rfl, HR9.out, HA9.out, HT9.out⟩
                case measure => simp [intOf]; omega
              · have HE := Lib.hid (show erV (ckR f) = .iface 96 (.int .i64 (ckR f)) from if_neg hcf)
                rw [HE.out] at HCF
                generalize ckR f = kk at *
                clear HE hcf
                go_wp2_with fail
                refine (HCF.out _).mono ?_
                rintro e w3 ⟨rfl, hb3⟩
                have HTe := Lib.hid (HT.out.step hb3)
                clear hb3 HCF
                go_wp2
                go_ret
                exact ⟨rfl, HTe.out.bel⟩
            · obtain rfl : k = n := by omega
              have hall : ApplyOf l rows := by
                have := HA.out
                rwa [List.take_of_length_le (by rw [HLEN.out]; exact Nat.le_refl _)] at this
              have HALL := Lib.hid hall
              have HAP := Lib.hid (apply_any none A 0 0 k c [] l wr (RdC.nil _ _) (HT.out.rd.more (by have := HT.out.sz; omega)) (by omega))
              have d0 : decide ((k : Int) < (k : Int)) = false := decide_eq_false (by omega)
              clear hall HA
              go_wp2_with fail
              refine HAP.out.mono ?_
              rintro e w8 ⟨v, out, rfl, hown, hao, hb8⟩
              obtain ⟨A2, c2, rfl, hr8⟩ := RdC.of_own hown
              have ho : out = rows := hao.unique HALL.out (fun _ => by rw [List.nil_append])
              subst ho
              have hln := HR.out.1
              subst hln
              have HT8 := Lib.hid (HT.out.step hb8)
              have HR8 := Lib.hid ((HR.out.below hb8).more hb8.size)
              have HSM := Lib.hid (sameC_any A2 Ar out.length c2 cr w8.heap.size w8.heap.size out w8 hr8 ((HR.out.below hb8).more hb8.size))
              clear hown hao hb8 hr8 HAP HT HR
              go_wp2_with fail
              refine HSM.out.mono ?_
              rintro e w9 ⟨rfl, q, rfl⟩
              have HT9 := Lib.hid (HT8.out.drewN q)
              have HR9 : Hid (RdC (w8.drewN q) (w8.drewN q).heap.size Ar out.length cr out) := HR8.out
              clear HSM HT8 HR8
              generalize w8.drewN q = w9 at *
              obtain ⟨a0, a1, a2, b0, b1, b2, _, _, hsz⟩ := HT9.out
              by_cases hkey : a.key = b.key
              · have ek : (a.key.toList == b.key.toList) = true := by rw [hkey]; simp
                have ek2 : (a.key == b.key) = true := by rw [hkey]; simp
                have HK := Lib.hid hkey
                clear hkey
                have z1 : (w9.alloc (.cells #[.string a.key, .string a.val, .bool a.gone, .string b.key, .string b.val, .bool b.gone] 54)).heap.size = w9.heap.size + 1 := by simp
                have z2 : (w9.alloc (.cells #[.string b.key, .string b.val, .bool b.gone] 54)).heap.size = w9.heap.size + 1 := by simp
                have TZA := Lib.hid (HT9.out.alloc (.cells #[.string a.key, .string a.val, .bool a.gone, .string b.key, .string b.val, .bool b.gone] 54)).drew
                have TZB := Lib.hid ((HT9.out.alloc (.cells #[.string a.key, .string a.val, .bool a.gone, .string b.key, .string b.val, .bool b.gone] 54)).alloc (.cells #[.string b.key, .string b.val, .bool b.gone] 54)).drew
                have TZC := Lib.hid ((HT9.out.alloc (.cells #[.string b.key, .string b.val, .bool b.gone] 54)).alloc (.cells #[.string a.key, .string a.val, .bool a.gone, .string b.key, .string b.val, .bool b.gone] 54)).drew
                have R1A := Lib.hid (HR9.out.alloc (Nat.le_refl _) (.cells #[.string a.key, .string a.val, .bool a.gone, .string b.key, .string b.val, .bool b.gone] 54)).drew
                have R1B := Lib.hid ((HR9.out.alloc (Nat.le_refl _) (.cells #[.string a.key, .string a.val, .bool a.gone, .string b.key, .string b.val, .bool b.gone] 54)).alloc (Nat.le_refl _) (.cells #[.string b.key, .string b.val, .bool b.gone] 54)).drew
                have R1C := Lib.hid ((HR9.out.alloc (Nat.le_refl _) (.cells #[.string b.key, .string b.val, .bool b.gone] 54)).alloc (Nat.le_refl _) (.cells #[.string a.key, .string a.val, .bool a.gone, .string b.key, .string b.val, .bool b.gone] 54)).drew
                have R2A := Lib.hid ((RdC.two w9 a b 54).more (show w9.heap.size + 1 ≤ (w9.alloc (.cells #[.string a.key, .string a.val, .bool a.gone, .string b.key, .string b.val, .bool b.gone] 54)).drew.heap.size by show _ ≤ (w9.alloc _).heap.size; simp)).drew
                have R2B := Lib.hid ((RdC.two w9 a b 54).alloc (by simp) (.cells #[.string b.key, .string b.val, .bool b.gone] 54)).drew
                have R3C := Lib.hid ((RdC.single w9 b 54).alloc (by simp) (.cells #[.string a.key, .string a.val, .bool a.gone, .string b.key, .string b.val, .bool b.gone] 54)).drew
                have r3 := RdC.single (w9.alloc (.cells #[.string a.key, .string a.val, .bool a.gone, .string b.key, .string b.val, .bool b.gone] 54)) b 54
                rw [z1] at r3
                have R3B := Lib.hid (r3.more (show w9.heap.size + 1 + 1 ≤ ((w9.alloc (.cells #[.string a.key, .string a.val, .bool a.gone, .string b.key, .string b.val, .bool b.gone] 54)).alloc (.cells #[.string b.key, .string b.val, .bool b.gone] 54)).drew.heap.size by show _ ≤ ((w9.alloc _).alloc _).heap.size; simp)).drew
                have r2 := RdC.two (w9.alloc (.cells #[.string b.key, .string b.val, .bool b.gone] 54)) a b 54
                rw [z2] at r2
                have R2C := Lib.hid (r2.more (show w9.heap.size + 1 + 1 ≤ ((w9.alloc (.cells #[.string b.key, .string b.val, .bool b.gone] 54)).alloc (.cells #[.string a.key, .string a.val, .bool a.gone, .string b.key, .string b.val, .bool b.gone] 54)).drew.heap.size by show _ ≤ ((w9.alloc _).alloc _).heap.size; simp)).drew
                have HAPA := Lib.hid (apply_any Ar (some ⟨w9.heap.size, 0, none⟩) out.length cr 2 2 out [a, b] (w9.alloc (.cells #[.string a.key, .string a.val, .bool a.gone, .string b.key, .string b.val, .bool b.gone] 54)).drew R1A.out R2A.out (by omega))
                have HAPB := Lib.hid (apply_any Ar (some ⟨w9.heap.size, 0, none⟩) out.length cr 2 2 out [a, b] ((w9.alloc (.cells #[.string a.key, .string a.val, .bool a.gone, .string b.key, .string b.val, .bool b.gone] 54)).alloc (.cells #[.string b.key, .string b.val, .bool b.gone] 54)).drew R1B.out R2B.out (by omega))
                have HAPC := Lib.hid (apply_any Ar (some ⟨w9.heap.size + 1, 0, none⟩) out.length cr 2 2 out [a, b] ((w9.alloc (.cells #[.string b.key, .string b.val, .bool b.gone] 54)).alloc (.cells #[.string a.key, .string a.val, .bool a.gone, .string b.key, .string b.val, .bool b.gone] 54)).drew R1C.out R2C.out (by omega))
                clear r2 r3 z1 z2
                go_wp2_with fail
                go_region_held3 (fun w' => w'.cell? ⟨w.heap.size, 0, none⟩ = some (.string a.key) ∧ w'.cell? ⟨w.heap.size, 1, none⟩ = some (.string a.val) ∧ w'.cell? ⟨w.heap.size, 2, none⟩ = some (.bool a.gone) ∧ w'.cell? ⟨w.heap.size + 1, 0, none⟩ = some (.string b.key) ∧ w'.cell? ⟨w.heap.size + 1, 1, none⟩ = some (.string b.val) ∧ w'.cell? ⟨w.heap.size + 1, 2, none⟩ = some (.bool b.gone))
                  (first | with_reducible exact TR.six HT12.out | with_reducible exact TR.six HT12.out.drew | with_reducible exact TR.six (HT12.out.alloc _) | with_reducible exact TR.six (HT12.out.alloc _).drew | with_reducible exact TR.six ((HT12.out.alloc _).alloc _) | with_reducible exact TR.six ((HT12.out.alloc _).alloc _).drew | with_reducible exact TR.six HT11.out | with_reducible exact TR.six HT11.out.drew | with_reducible exact TR.six (HT11.out.alloc _) | with_reducible exact TR.six (HT11.out.alloc _).drew | with_reducible exact TR.six ((HT11.out.alloc _).alloc _) | with_reducible exact TR.six ((HT11.out.alloc _).alloc _).drew | with_reducible exact TR.six HT10.out | with_reducible exact TR.six HT10.out.drew | with_reducible exact TR.six (HT10.out.alloc _) | with_reducible exact TR.six (HT10.out.alloc _).drew | with_reducible exact TR.six ((HT10.out.alloc _).alloc _) | with_reducible exact TR.six ((HT10.out.alloc _).alloc _).drew | with_reducible exact TR.six HT9.out | with_reducible exact TR.six HT9.out.drew | with_reducible exact TR.six (HT9.out.alloc _) | with_reducible exact TR.six (HT9.out.alloc _).drew | with_reducible exact TR.six ((HT9.out.alloc _).alloc _) | with_reducible exact TR.six ((HT9.out.alloc _).alloc _).drew)
                  (first
                    | (have _g := HT11; go_at_call 37; (with_reducible refine HSM.out.mono ?_); rintro e w12 ⟨rfl, q12, rfl⟩; have HT12 := Lib.hid (HT11.out.drewN q12))
                    | (have _g := HT10; go_at_call 38; (with_reducible refine HAP2.out.mono ?_); rintro e w11 ⟨v2, o2, rfl, own2, ap2, bel2⟩; obtain ⟨A11, c11, rfl, rd11⟩ := RdC.of_own own2; have e12 : o1 = o2 := HA1.out.unique ap2 (ends_same HK.out out); subst e12; have HT11 : Hid (TR w a b A _ c l w11) := (by first | exact (HT10.out.alloc (.cells #[.string b.key, .string b.val, .bool b.gone] 54)).step bel2 | exact HT10.out.step bel2); have HSM := Lib.hid (sameC_any A10 A11 o1.length c10 c11 w10.heap.size w11.heap.size o1 w11 (by first | exact ((HR10b.out.below ((Below.refl _ _).alloc (Nat.le_refl _) (.cells #[.string b.key, .string b.val, .bool b.gone] 54))).below (bel2.mono (by simp))) | exact (HR10b.out.below bel2)) rd11); clear own2 ap2 bel2 rd11)
                    | (go_at_call 38; (with_reducible refine HAPA.out.mono ?_); rintro e w10 ⟨v1, o1, rfl, own1, ap1, bel1⟩; obtain ⟨A10, c10, rfl, rd10⟩ := RdC.of_own own1; have HR10b := Lib.hid rd10; have HA1 := Lib.hid ap1; have HT10 := Lib.hid (TZA.out.step bel1); have HR10 := Lib.hid ((R1A.out.below bel1).more bel1.size); have HAP2 := Lib.hid (apply_any Ar (some ⟨w10.heap.size, 0, none⟩) out.length cr 1 1 out [b] (w10.alloc (.cells #[.string b.key, .string b.val, .bool b.gone] 54)) (HR10.out.alloc (Nat.le_refl _) (.cells #[.string b.key, .string b.val, .bool b.gone] 54)) ((RdC.single w10 b 54).more (by simp)) (by omega)); have a0' := HT10.out.a0; have a1' := HT10.out.a1; have a2' := HT10.out.a2; have b0' := HT10.out.b0; have b1' := HT10.out.b1; have b2' := HT10.out.b2; clear own1 ap1 bel1 rd10)
                    | (go_at_call 38; (with_reducible refine HAPB.out.mono ?_); rintro e w10 ⟨v1, o1, rfl, own1, ap1, bel1⟩; obtain ⟨A10, c10, rfl, rd10⟩ := RdC.of_own own1; have HR10b := Lib.hid rd10; have HA1 := Lib.hid ap1; have HT10 := Lib.hid (TZB.out.step bel1); have HAP2 := Lib.hid (apply_any Ar (some ⟨w9.heap.size + 1, 0, none⟩) out.length cr 1 1 out [b] w10 ((R1B.out.below bel1).more bel1.size) ((R3B.out.below bel1).more bel1.size) (by omega)); have a0' := HT10.out.a0; have a1' := HT10.out.a1; have a2' := HT10.out.a2; have b0' := HT10.out.b0; have b1' := HT10.out.b1; have b2' := HT10.out.b2; clear own1 ap1 bel1 rd10)
                    | (go_at_call 38; (with_reducible refine HAPC.out.mono ?_); rintro e w10 ⟨v1, o1, rfl, own1, ap1, bel1⟩; obtain ⟨A10, c10, rfl, rd10⟩ := RdC.of_own own1; have HR10b := Lib.hid rd10; have HA1 := Lib.hid ap1; have HT10 := Lib.hid (TZC.out.step bel1); have HAP2 := Lib.hid (apply_any Ar (some ⟨w9.heap.size, 0, none⟩) out.length cr 1 1 out [b] w10 ((R1C.out.below bel1).more bel1.size) ((R3C.out.below bel1).more bel1.size) (by omega)); have a0' := HT10.out.a0; have a1' := HT10.out.a1; have a2' := HT10.out.a2; have b0' := HT10.out.b0; have b1' := HT10.out.b1; have b2' := HT10.out.b2; clear own1 ap1 bel1 rd10))
                all_goals go_wp2
                all_goals go_ret
                all_goals exact ⟨rfl, HT12.out.bel⟩
              · have ek : (a.key.toList == b.key.toList) = false := by rw [beq_eq_false_iff_ne]; exact fun e => hkey (toList_inj e)
                have ek2 : (a.key == b.key) = false := by rw [beq_eq_false_iff_ne]; exact hkey
                have HK := Lib.hid hkey
                clear hkey
                have z1 : (w9.alloc (.cells #[.string a.key, .string a.val, .bool a.gone, .string b.key, .string b.val, .bool b.gone] 54)).heap.size = w9.heap.size + 1 := by simp
                have z2 : (w9.alloc (.cells #[.string b.key, .string b.val, .bool b.gone, .string a.key, .string a.val, .bool a.gone] 54)).heap.size = w9.heap.size + 1 := by simp
                have TZA := Lib.hid (HT9.out.alloc (.cells #[.string a.key, .string a.val, .bool a.gone, .string b.key, .string b.val, .bool b.gone] 54)).drew
                have TZB := Lib.hid ((HT9.out.alloc (.cells #[.string a.key, .string a.val, .bool a.gone, .string b.key, .string b.val, .bool b.gone] 54)).alloc (.cells #[.string b.key, .string b.val, .bool b.gone, .string a.key, .string a.val, .bool a.gone] 54)).drew
                have TZC := Lib.hid ((HT9.out.alloc (.cells #[.string b.key, .string b.val, .bool b.gone, .string a.key, .string a.val, .bool a.gone] 54)).alloc (.cells #[.string a.key, .string a.val, .bool a.gone, .string b.key, .string b.val, .bool b.gone] 54)).drew
                have R1A := Lib.hid (HR9.out.alloc (Nat.le_refl _) (.cells #[.string a.key, .string a.val, .bool a.gone, .string b.key, .string b.val, .bool b.gone] 54)).drew
                have R1B := Lib.hid ((HR9.out.alloc (Nat.le_refl _) (.cells #[.string a.key, .string a.val, .bool a.gone, .string b.key, .string b.val, .bool b.gone] 54)).alloc (Nat.le_refl _) (.cells #[.string b.key, .string b.val, .bool b.gone, .string a.key, .string a.val, .bool a.gone] 54)).drew
                have R1C := Lib.hid ((HR9.out.alloc (Nat.le_refl _) (.cells #[.string b.key, .string b.val, .bool b.gone, .string a.key, .string a.val, .bool a.gone] 54)).alloc (Nat.le_refl _) (.cells #[.string a.key, .string a.val, .bool a.gone, .string b.key, .string b.val, .bool b.gone] 54)).drew
                have R2A := Lib.hid ((RdC.two w9 a b 54).more (show w9.heap.size + 1 ≤ (w9.alloc (.cells #[.string a.key, .string a.val, .bool a.gone, .string b.key, .string b.val, .bool b.gone] 54)).drew.heap.size by show _ ≤ (w9.alloc _).heap.size; simp)).drew
                have R2B := Lib.hid ((RdC.two w9 a b 54).alloc (by simp) (.cells #[.string b.key, .string b.val, .bool b.gone, .string a.key, .string a.val, .bool a.gone] 54)).drew
                have R3C := Lib.hid ((RdC.two w9 b a 54).alloc (by simp) (.cells #[.string a.key, .string a.val, .bool a.gone, .string b.key, .string b.val, .bool b.gone] 54)).drew
                have r3 := RdC.two (w9.alloc (.cells #[.string a.key, .string a.val, .bool a.gone, .string b.key, .string b.val, .bool b.gone] 54)) b a 54
                rw [z1] at r3
                have R3B := Lib.hid (r3.more (show w9.heap.size + 1 + 1 ≤ ((w9.alloc (.cells #[.string a.key, .string a.val, .bool a.gone, .string b.key, .string b.val, .bool b.gone] 54)).alloc (.cells #[.string b.key, .string b.val, .bool b.gone, .string a.key, .string a.val, .bool a.gone] 54)).drew.heap.size by show _ ≤ ((w9.alloc _).alloc _).heap.size; simp)).drew
                have r2 := RdC.two (w9.alloc (.cells #[.string b.key, .string b.val, .bool b.gone, .string a.key, .string a.val, .bool a.gone] 54)) a b 54
                rw [z2] at r2
                have R2C := Lib.hid (r2.more (show w9.heap.size + 1 + 1 ≤ ((w9.alloc (.cells #[.string b.key, .string b.val, .bool b.gone, .string a.key, .string a.val, .bool a.gone] 54)).alloc (.cells #[.string a.key, .string a.val, .bool a.gone, .string b.key, .string b.val, .bool b.gone] 54)).drew.heap.size by show _ ≤ ((w9.alloc _).alloc _).heap.size; simp)).drew
                have HAPA := Lib.hid (apply_any Ar (some ⟨w9.heap.size, 0, none⟩) out.length cr 2 2 out [a, b] (w9.alloc (.cells #[.string a.key, .string a.val, .bool a.gone, .string b.key, .string b.val, .bool b.gone] 54)).drew R1A.out R2A.out (by omega))
                have HAPB := Lib.hid (apply_any Ar (some ⟨w9.heap.size, 0, none⟩) out.length cr 2 2 out [a, b] ((w9.alloc (.cells #[.string a.key, .string a.val, .bool a.gone, .string b.key, .string b.val, .bool b.gone] 54)).alloc (.cells #[.string b.key, .string b.val, .bool b.gone, .string a.key, .string a.val, .bool a.gone] 54)).drew R1B.out R2B.out (by omega))
                have HAPC := Lib.hid (apply_any Ar (some ⟨w9.heap.size + 1, 0, none⟩) out.length cr 2 2 out [a, b] ((w9.alloc (.cells #[.string b.key, .string b.val, .bool b.gone, .string a.key, .string a.val, .bool a.gone] 54)).alloc (.cells #[.string a.key, .string a.val, .bool a.gone, .string b.key, .string b.val, .bool b.gone] 54)).drew R1C.out R2C.out (by omega))
                clear r2 r3 z1 z2
                go_wp2_with fail
                go_region_held3 (fun w' => w'.cell? ⟨w.heap.size, 0, none⟩ = some (.string a.key) ∧ w'.cell? ⟨w.heap.size, 1, none⟩ = some (.string a.val) ∧ w'.cell? ⟨w.heap.size, 2, none⟩ = some (.bool a.gone) ∧ w'.cell? ⟨w.heap.size + 1, 0, none⟩ = some (.string b.key) ∧ w'.cell? ⟨w.heap.size + 1, 1, none⟩ = some (.string b.val) ∧ w'.cell? ⟨w.heap.size + 1, 2, none⟩ = some (.bool b.gone))
                  (first | with_reducible exact TR.six HT12.out | with_reducible exact TR.six HT12.out.drew | with_reducible exact TR.six (HT12.out.alloc _) | with_reducible exact TR.six (HT12.out.alloc _).drew | with_reducible exact TR.six ((HT12.out.alloc _).alloc _) | with_reducible exact TR.six ((HT12.out.alloc _).alloc _).drew | with_reducible exact TR.six HT11.out | with_reducible exact TR.six HT11.out.drew | with_reducible exact TR.six (HT11.out.alloc _) | with_reducible exact TR.six (HT11.out.alloc _).drew | with_reducible exact TR.six ((HT11.out.alloc _).alloc _) | with_reducible exact TR.six ((HT11.out.alloc _).alloc _).drew | with_reducible exact TR.six HT10.out | with_reducible exact TR.six HT10.out.drew | with_reducible exact TR.six (HT10.out.alloc _) | with_reducible exact TR.six (HT10.out.alloc _).drew | with_reducible exact TR.six ((HT10.out.alloc _).alloc _) | with_reducible exact TR.six ((HT10.out.alloc _).alloc _).drew | with_reducible exact TR.six HT9.out | with_reducible exact TR.six HT9.out.drew | with_reducible exact TR.six (HT9.out.alloc _) | with_reducible exact TR.six (HT9.out.alloc _).drew | with_reducible exact TR.six ((HT9.out.alloc _).alloc _) | with_reducible exact TR.six ((HT9.out.alloc _).alloc _).drew)
                  (first
                    | (have _g := HT11; go_at_call 37; (with_reducible refine HSM.out.mono ?_); rintro e w12 ⟨rfl, q12, rfl⟩; have HT12 := Lib.hid (HT11.out.drewN q12))
                    | (have _g := HT10; go_at_call 38; (with_reducible refine HAP2.out.mono ?_); rintro e w11 ⟨v2, o2, rfl, own2, ap2, bel2⟩; obtain ⟨A11, c11, rfl, rd11⟩ := RdC.of_own own2; have e12 : o1 = o2 := HA1.out.unique ap2 (ends_swap HK.out out); subst e12; have HT11 : Hid (TR w a b A _ c l w11) := (by first | exact (HT10.out.alloc (.cells #[.string b.key, .string b.val, .bool b.gone, .string a.key, .string a.val, .bool a.gone] 54)).step bel2 | exact HT10.out.step bel2); have HSM := Lib.hid (sameC_any A10 A11 o1.length c10 c11 w10.heap.size w11.heap.size o1 w11 (by first | exact ((HR10b.out.below ((Below.refl _ _).alloc (Nat.le_refl _) (.cells #[.string b.key, .string b.val, .bool b.gone, .string a.key, .string a.val, .bool a.gone] 54))).below (bel2.mono (by simp))) | exact (HR10b.out.below bel2)) rd11); clear own2 ap2 bel2 rd11)
                    | (go_at_call 38; (with_reducible refine HAPA.out.mono ?_); rintro e w10 ⟨v1, o1, rfl, own1, ap1, bel1⟩; obtain ⟨A10, c10, rfl, rd10⟩ := RdC.of_own own1; have HR10b := Lib.hid rd10; have HA1 := Lib.hid ap1; have HT10 := Lib.hid (TZA.out.step bel1); have HR10 := Lib.hid ((R1A.out.below bel1).more bel1.size); have HAP2 := Lib.hid (apply_any Ar (some ⟨w10.heap.size, 0, none⟩) out.length cr 2 2 out [b, a] (w10.alloc (.cells #[.string b.key, .string b.val, .bool b.gone, .string a.key, .string a.val, .bool a.gone] 54)) (HR10.out.alloc (Nat.le_refl _) (.cells #[.string b.key, .string b.val, .bool b.gone, .string a.key, .string a.val, .bool a.gone] 54)) ((RdC.two w10 b a 54).more (by simp)) (by omega)); have a0' := HT10.out.a0; have a1' := HT10.out.a1; have a2' := HT10.out.a2; have b0' := HT10.out.b0; have b1' := HT10.out.b1; have b2' := HT10.out.b2; clear own1 ap1 bel1 rd10)
                    | (go_at_call 38; (with_reducible refine HAPB.out.mono ?_); rintro e w10 ⟨v1, o1, rfl, own1, ap1, bel1⟩; obtain ⟨A10, c10, rfl, rd10⟩ := RdC.of_own own1; have HR10b := Lib.hid rd10; have HA1 := Lib.hid ap1; have HT10 := Lib.hid (TZB.out.step bel1); have HAP2 := Lib.hid (apply_any Ar (some ⟨w9.heap.size + 1, 0, none⟩) out.length cr 2 2 out [b, a] w10 ((R1B.out.below bel1).more bel1.size) ((R3B.out.below bel1).more bel1.size) (by omega)); have a0' := HT10.out.a0; have a1' := HT10.out.a1; have a2' := HT10.out.a2; have b0' := HT10.out.b0; have b1' := HT10.out.b1; have b2' := HT10.out.b2; clear own1 ap1 bel1 rd10)
                    | (go_at_call 38; (with_reducible refine HAPC.out.mono ?_); rintro e w10 ⟨v1, o1, rfl, own1, ap1, bel1⟩; obtain ⟨A10, c10, rfl, rd10⟩ := RdC.of_own own1; have HR10b := Lib.hid rd10; have HA1 := Lib.hid ap1; have HT10 := Lib.hid (TZC.out.step bel1); have HAP2 := Lib.hid (apply_any Ar (some ⟨w9.heap.size, 0, none⟩) out.length cr 2 2 out [b, a] w10 ((R1C.out.below bel1).more bel1.size) ((R3C.out.below bel1).more bel1.size) (by omega)); have a0' := HT10.out.a0; have a1' := HT10.out.a1; have a2' := HT10.out.a2; have b0' := HT10.out.b0; have b1' := HT10.out.b1; have b2' := HT10.out.b2; clear own1 ap1 bel1 rd10))
                all_goals go_wp2
                all_goals go_ret
                all_goals exact ⟨rfl, HT12.out.bel⟩
        · have HE := Lib.hid (show erV (ckR b) = .iface 96 (.int .i64 (ckR b)) from if_neg hcb)
          rw [HE.out] at HCB
          generalize ckR b = kk at *
          clear HE hcb
          go_wp2_with fail
          refine (HCB.out _).mono ?_
          rintro e w3 ⟨rfl, hb3⟩
          have HTe := Lib.hid (HT3.out.step hb3)
          clear hb3 HCB
          go_wp2
          go_ret
          exact ⟨rfl, HTe.out.bel⟩
      · have HE := Lib.hid (show erV (ckR a) = .iface 96 (.int .i64 (ckR a)) from if_neg hca)
        rw [HE.out] at HCA
        generalize ckR a = kk at *
        clear HE hca
        go_wp2_with fail
        refine (HCA.out _).mono ?_
        rintro e w3 ⟨rfl, hb3⟩
        have HTe := Lib.hid (HT2.out.step hb3)
        clear hb3 HCA
        go_wp2
        go_ret
        exact ⟨rfl, HTe.out.bel⟩
end Go.Proofs.Ytdkjnclbgkcblaa
