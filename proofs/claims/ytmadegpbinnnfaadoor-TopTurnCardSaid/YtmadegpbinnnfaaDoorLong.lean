/-
  WALKS: slices.Reverse, recipe.turned, recipe.pass and recipe.Run of 'turn', for texts of any length that a text may have.
-/
import Derived.Test.YtmadegpbinnnfaaDoorRunB
namespace Go.Proofs.YtmadegpbinnnfaaDoor
open Go.RowKit

/-- The sizes that are asked, of the texts themselves none. -/
structure Mid (base : List F) (needs targets : List ByteArray) (own : List F) : Prop where
  rb : Rises base
  ro : Rises own
  lb : base.length ≤ 800000
  lo : own.length ≤ 800000
  ln : needs.length ≤ 800000
  lt : targets.length ≤ 800000

set_option maxHeartbeats 2000000 in
set_option maxRecDepth 100000 in
theorem reverse_long (g n c : Nat) (f : Nat → UInt8) (w : World) (h : ByF w g n f) (hn : n ≤ 9223372036854775807) :
    Calls Tryd.prog 48 #[.slice (some ⟨g, 0, none⟩) n c] w fun e w' => e = .returned (.tuple #[]) ∧ ByF w' g n (fun m => f (n - 1 - m)) ∧ w.grownBy w' (some g) := by
  have HR := Lib.hid h
  clear h
  by_cases h0 : n = 0
  · subst h0
    go_enter Tryd.func48, Tryd.ntmps48
    go_wp2
    refine wp_loop_rounds 1 ?_
    rw [rounds_succ]
    go_wp2
    go_end0
    exact ⟨rfl, HR.out.congr (fun m hm => by omega), World.grownBy.refl _ _⟩
  obtain ⟨n, rfl⟩ : ∃ n', n = n' + 1 := ⟨n - 1, by omega⟩
  go_enter Tryd.func48, Tryd.ntmps48
  go_wp2
  go_loopw [2, 3] (fun i j wr => RvRel w g (n + 1) f i j wr) (fun i _ _ => n + 1 - (intOf i).toNat)
  case atStart => exact ⟨0, n, by omega, rfl, by go_num, HR.out.congr (fun m hm => by simp [revF]; intro h; omega), World.grownBy.refl _ _⟩
  case round =>
    obtain ⟨k, q, hkq, rfl, rfl, hby, hg⟩ := hrel
    have HB := Lib.hid hby
    clear hby
    have hkqle : k + q ≤ n := by omega
    have hkqge : n ≤ k + q := by omega
    have HK := Lib.hid hkq
    clear hkq
    by_cases hlt : k < q
    · have ck : wr.cell? ⟨g, k, none⟩ = some (.int .u8 ((f k).toNat : Int)) := by
        have := HB.out.cell (j := k) (by omega)
        rw [show revF (n + 1) k f k = f k by unfold revF; rw [if_neg (by omega)]] at this
        exact this
      have cq : wr.cell? ⟨g, q, none⟩ = some (.int .u8 ((f q).toNat : Int)) := by
        have := HB.out.cell (j := q) (by omega)
        rw [show revF (n + 1) k f q = f q by unfold revF; rw [if_neg (by omega)]] at this
        exact this
      have zk : wr.frozen? ⟨g, k, none⟩ = false := HB.out.frozen (by omega)
      have zq : wr.frozen? ⟨g, q, none⟩ = false := HB.out.frozen (by omega)
      have i1 : (k : Int) < (n : Int) + 1 := by omega
      have i2 : (q : Int) < (n : Int) + 1 := by omega
      generalize hfk : f k = bk at ck
      generalize hfq : f q = bq at cq
      have HFK := Lib.hid hfk
      have HFQ := Lib.hid hfq
      clear hfk hfq
      go_wp2
      go_region
      go_wp2
      go_roundw
      case rel =>
        have hkq := HK.out
        have b1 := (HB.out.set (j := k) bq).set (j := q) bk
        refine ⟨k + 1, q - 1, by omega, by go_num, by have e : ((q - 1 : Nat) : Int) = (q : Int) - 1 := by omega
                                                      rw [e], ?_, ?_⟩
        · refine ByF.congr (f := fun m => if m = q then bk else if m = k then bq else revF (n + 1) k f m) b1 (fun m hm => ?_)
          have e1 := HFK.out
          have e2 := HFQ.out
          unfold revF
          by_cases hq : m = q
          · subst hq
            rw [if_pos rfl, if_pos (by omega), ← e1]
            congr 1
            omega
          · rw [if_neg hq]
            by_cases hk : m = k
            · subst hk
              rw [if_pos rfl, if_pos (by omega), ← e2]
              congr 1
              omega
            · rw [if_neg hk]
              by_cases hc : m < k ∨ n + 1 ≤ m + k
              · rw [if_pos hc, if_pos (by omega)]
              · rw [if_neg hc, if_neg (by omega)]
        · exact ⟨hg.os, hg.tape, hg.output, (grown_trans (grown_trans hg (grown_setCell wr g k (.int .u8 (bq.toNat : Int)))) (grown_setCell _ g q (.int .u8 (bk.toNat : Int)))).size, (grown_trans (grown_trans hg (grown_setCell wr g k (.int .u8 (bq.toNat : Int)))) (grown_setCell _ g q (.int .u8 (bk.toNat : Int)))).block⟩
      case measure => simp [intOf]; omega
    · go_wp2
      go_end0
      refine ⟨rfl, HB.out.congr (fun m hm => ?_), hg⟩
      have hkq := HK.out
      unfold revF
      by_cases hc : m < k ∨ n + 1 ≤ m + k
      · rw [if_pos hc]
      · rw [if_neg hc]
        congr 1
        omega

set_option maxHeartbeats 1000000 in
set_option maxRecDepth 100000 in
theorem turned_long (s : ByteArray) (w : World) (hs : s.size ≤ 9223372036854775807) : Calls Tryd.prog 32 #[.string s] w fun e w' => e = .returned (.string (revT s)) ∧ Below w.heap.size w w' := by
  have hconv := Lib.run_convert_string_bytes (P := Tryd.prog) w 9 79 5 s Tryd.underlying9 Tryd.underlying79 Tryd.underlying5
  have HB := Lib.hid (bytes_new w 5 s)
  have hb := bytes_below w 5 s
  have HE := Lib.hid (ofBytes_rev s)
  generalize Lib.bytesWorld w 5 s = wb at *
  generalize grownCap w s.size 0 5 = cap at *
  go_enter Tryd.func32, Tryd.ntmps32
  go_wp2_with fail
  refine (reverse_long w.heap.size s.size cap _ wb HB.out hs).mono ?_
  rintro e w1 ⟨rfl, hby, hg⟩
  have hback := convert_back (P := Tryd.prog) w1 79 9 5 w.heap.size cap s.size _ Tryd.underlying79 Tryd.underlying5 Tryd.underlying9 hby
  rw [HE.out] at hback
  clear hconv hby
  go_wp2
  go_ret
  exact ⟨rfl, hb.grown hg hb.size (fun k hk => by injection hk with hk; omega)⟩

set_option maxHeartbeats 1000000 in
set_option maxRecDepth 100000 in
theorem pass_turn_long (g : Nat) (base : List F) (needs targets : List ByteArray) (own : List F) (f : ByteArray → ByteArray) (inn out : ByteArray) (w : World) (h : OvA w g base needs targets own) (hsm : Mid base needs targets own) (hts : (rText base needs own inn).size ≤ 9223372036854775807)
    (hf : ∀ (t : ByteArray) (W : World), t.size ≤ 9223372036854775807 → Below w.heap.size w W → Calls Tryd.prog 32 #[.string t] W fun e w' => e = .returned (.string (f t)) ∧ Below W.heap.size W w') :
    Calls Tryd.prog 30 #[.pointer (some ⟨g, 0, none⟩), .string inn, .string out, .func (.func 32) #[] #[]] w (RunPost g base needs targets (passR base needs targets own f inn out) w) := by
  have HF := Lib.hid hf
  have HO := Lib.hid h
  clear hf h
  by_cases h0 : rErr base needs own inn = 0
  · have e1 : passR base needs targets own f inn out = writeR targets own out (f (rText base needs own inn)) := by simp [passR, h0]
    rw [e1]
    have H0 := Lib.hid h0
    clear h0 e1
    go_enter Tryd.func30, Tryd.ntmps30
    go_wp2_with fail
    refine (read_any g base needs targets own inn w HO.out hsm.ro hsm.rb (by have := hsm.lo; omega) (by have := hsm.lb; omega) (by have := hsm.ln; omega)).mono ?_
    rintro e w1 ⟨rfl, hb1⟩
    rw [H0.out, errV_zero]
    generalize rText base needs own inn = tx at *
    go_wp2_with fail
    refine (HF.out tx w1 hts hb1).mono ?_
    rintro e w2 ⟨rfl, hb2⟩
    have hb12 : Below w.heap.size w w2 := hb1.trans (hb2.mono hb1.size)
    go_wp2_with fail
    refine (write_any g base needs targets own out (f tx) w2 (HO.out.below hb12) hsm.ro (by have := hsm.lo; omega) (by have := hsm.lt; omega)).mono ?_
    rintro e w3 ⟨rfl, hov, hg⟩
    have HV := Lib.hid hov
    clear hov
    go_wp2
    go_ret
    exact ⟨rfl, HV.out, grown_trans (grown_below hb12 _) hg⟩
  · have e1 : passR base needs targets own f inn out = (rErr base needs own inn, own) := by simp [passR, h0]
    rw [e1]
    have H0 := Lib.hid (errV_ne h0)
    clear h0 e1
    go_enter Tryd.func30, Tryd.ntmps30
    go_wp2_with fail
    refine (read_any g base needs targets own inn w HO.out hsm.ro hsm.rb (by have := hsm.lo; omega) (by have := hsm.lb; omega) (by have := hsm.ln; omega)).mono ?_
    rintro e w1 ⟨rfl, hb1⟩
    rw [H0.out]
    go_wp2
    go_ret
    exact ⟨by rw [H0.out]; rfl, HO.out.below hb1, grown_below hb1 _⟩

set_option maxHeartbeats 2000000 in
set_option maxRecDepth 100000 in
theorem run_turn_long (g : Nat) (base : List F) (needs targets : List ByteArray) (own : List F) (cmd : ByteArray) (ws : List ByteArray) (n : Nat) (r : Int × List F) (W1 W2 : ByteArray) (w : World) (h : OvA w g base needs targets own) (hsm : Mid base needs targets own) (hts : (rText base needs own W1).size ≤ 9223372036854775807) (hm : MaxOk w) (hc : cmd.size ≤ 1000)
    (hws : words cmd = ws) (hn : ws.length = n) (hn9 : n ≤ 1001) (hwd0 : ws[0]? = some (⟨#[116, 117, 114, 110]⟩ : ByteArray)) (hwd1 : ws[1]? = some W1) (hwd2 : ws[2]? = some W2) (hcond : n = 3) (hr : r = passR base needs targets own revT W1 W2) :
    Calls Tryd.prog 17 #[.pointer (some ⟨g, 0, none⟩), .string cmd] w (RunPost g base needs targets r w) := by
  have hpos : 1 ≤ n := by omega
  have i0 : (0 : Int) < (n : Int) := by omega
  have i1 : (1 : Int) < (n : Int) := by omega
  have i2 : (2 : Int) < (n : Int) := by omega
  have q3 : ((n : Int) == 3) = true := by rw [beq_iff_eq]; omega
  have HC1 := Lib.hid hcond
  clear hcond
  have HOV := Lib.hid h
  have HW := Lib.hid hws
  have HN := Lib.hid hn
  have HRR := Lib.hid hr
  clear h hws hn hr
  go_enter Tryd.func17, Tryd.ntmps17
  go_wp2_with fail
  refine (split_any cmd w (by omega) hm).mono ?_
  rintro e w1 ⟨rfl, hr1, hb1⟩
  rw [HW.out, HN.out] at hr1
  rw [HW.out, HN.out]
  have hbx := (Below.refl w1.heap.size w1).alloc (Nat.le_refl _) (.cells #[.slice (some ⟨w.heap.size, 0, none⟩) n n] 32)
  have hb2 : Below w.heap.size w (w1.alloc (.cells #[.slice (some ⟨w.heap.size, 0, none⟩) n n] 32)) := hb1.trans (hbx.mono hb1.size)
  have hr2 := hr1.belowS hbx
  have HR2 := Lib.hid hr2
  have HO2 := Lib.hid (HOV.out.below hb2)
  have x0 : (w1.alloc (.cells #[.slice (some ⟨w.heap.size, 0, none⟩) n n] 32)).cell? ⟨w1.heap.size, 0, none⟩ = some (.slice (some ⟨w.heap.size, 0, none⟩) n n) := by rw [World.cell?_alloc_at _ _ _ _ rfl]; rfl
  have X0 := Lib.hid x0
  have c0 : (w1.alloc (.cells #[.slice (some ⟨w.heap.size, 0, none⟩) n n] 32)).cell? ⟨w.heap.size, 0, none⟩ = some (.string (⟨#[116, 117, 114, 110]⟩ : ByteArray)) := by
    obtain ⟨b, off, e, _, hcell⟩ := hr2.at_ (hwd0)
    injection e with e
    injection e with e1 e2
    subst e1; subst e2
    simpa using hcell
  have c1 : (w1.alloc (.cells #[.slice (some ⟨w.heap.size, 0, none⟩) n n] 32)).cell? ⟨w.heap.size, 1, none⟩ = some (.string W1) := by
    obtain ⟨b, off, e, _, hcell⟩ := hr2.at_ (hwd1)
    injection e with e
    injection e with e1 e2
    subst e1; subst e2
    simpa using hcell
  have c2 : (w1.alloc (.cells #[.slice (some ⟨w.heap.size, 0, none⟩) n n] 32)).cell? ⟨w.heap.size, 2, none⟩ = some (.string W2) := by
    obtain ⟨b, off, e, _, hcell⟩ := hr2.at_ (hwd2)
    injection e with e
    injection e with e1 e2
    subst e1; subst e2
    simpa using hcell
  have HSZ := Lib.hid (show (w1.alloc (.cells #[.slice (some ⟨w.heap.size, 0, none⟩) n n] 32)).heap.size = w1.heap.size + 1 by simp)
  have hw1 := hb1.size
  clear hr1 hbx hr2 x0
  go_wp2
  generalize w1.alloc (.cells #[.slice (some ⟨w.heap.size, 0, none⟩) n n] 32) = w2 at *
  have x0 := X0.out
  have hbD : Below w.heap.size w w2.drew := ⟨hb2.os, hb2.tape, hb2.output, hb2.size, hb2.block⟩
  have HOD := Lib.hid (show OvA w2.drew g base needs targets own from HO2.out)
  have hh : (w2.drew.cell? ⟨w1.heap.size, 0, none⟩ = some (.slice (some ⟨w.heap.size, 0, none⟩) n n) ∧ w2.drew.cell? ⟨w.heap.size, 1, none⟩ = some (.string W1) ∧ w2.drew.cell? ⟨w.heap.size, 2, none⟩ = some (.string W2)) := ⟨x0, c1, c2⟩
  have HH := Lib.hid hh
  have hlb : w1.heap.size < w2.drew.heap.size := by have := HSZ.out; show w1.heap.size < w2.heap.size; omega
  have gl : g < w.heap.size := HOV.out.lt
  have N1 := Lib.hid (show some w1.heap.size ≠ some g by intro e; injection e with e; omega)
  have N2 := Lib.hid (show some w.heap.size ≠ some g by intro e; injection e with e; omega)
  clear hh
  go_region_held3 (fun w' => w'.cell? ⟨w1.heap.size, 0, none⟩ = some (.slice (some ⟨w.heap.size, 0, none⟩) n n) ∧ w'.cell? ⟨w.heap.size, 1, none⟩ = some (.string W1) ∧ w'.cell? ⟨w.heap.size, 2, none⟩ = some (.string W2))
    (first | exact ⟨k0, k1, k2⟩ | exact HH.out | exact ⟨x0, c1, c2⟩)
    (first
      | (go_at_call 30; refine (pass_turn_long g base needs targets own revT W1 W2 _ HOD.out hsm hts (fun t W ht _ => turned_long t W ht)).mono ?_; rintro e w3 ⟨rfl, hov, hg⟩; have HV := Lib.hid hov; have HG := Lib.hid hg; have k0 : w3.cell? ⟨w1.heap.size, 0, none⟩ = some (.slice (some ⟨w.heap.size, 0, none⟩) n n) := hg.cell HH.out.1 N1.out; have k1 : w3.cell? ⟨w.heap.size, 1, none⟩ = some (.string W1) := hg.cell HH.out.2.1 N2.out; have k2 : w3.cell? ⟨w.heap.size, 2, none⟩ = some (.string W2) := hg.cell HH.out.2.2 N2.out; clear hov hg))
  go_wp2
  go_ret
  exact ⟨by rw [HRR.out]; rfl, by rw [HRR.out]; exact HV.out, grown_trans (grown_below hbD _) HG.out⟩

end Go.Proofs.YtmadegpbinnnfaaDoor
