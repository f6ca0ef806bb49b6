/-
  WALKS: recipe.Run: what it comes to for every command of at most 1000 bytes, where internal/bytealg.MaxLen holds some number.
-/
import Derived.Test.YtmadegpbinnnfaaDoorJoin
import Derived.Deep.RegionHeld3
namespace Go.Proofs.YtmadegpbinnnfaaDoor
open Go.RowKit

theorem words_pos (s : ByteArray) : 1 ≤ (words s).length := by
  have := words_ne s
  cases h : words s with
  | nil => exact absurd h this
  | cons a l => simp
theorem words_len (s : ByteArray) : (words s).length ≤ s.size + 1 := by
  have h1 := spl_len s.data.toList
  have : (words s).length = (spl s.data.toList).length := by simp [words]
  simp at h1
  omega
/-- Of the words: each is no longer than the text. -/
theorem spl_word_len : ∀ (l : List UInt8) (x : List UInt8), x ∈ spl l → x.length ≤ l.length
  | [], x, h => by simp [spl] at h; simp [h]
  | b :: l, x, h => by
    unfold spl at h
    split at h
    · rcases List.mem_cons.1 h with rfl | h
      · simp
      · have := spl_word_len l x h; simp; omega
    · split at h
      · simp at h; simp [h]
      · rename_i hd tl e
        rcases List.mem_cons.1 h with rfl | h
        · have := spl_word_len l hd (by rw [e]; simp); simp; omega
        · have := spl_word_len l x (by rw [e]; simp [h]); simp; omega

set_option maxHeartbeats 2000000 in
set_option maxRecDepth 100000 in
theorem run_put_no (g : Nat) (base : List F) (needs targets : List ByteArray) (own : List F) (cmd : ByteArray) (ws : List ByteArray) (n : Nat) (r : Int × List F) (w : World) (h : OvA w g base needs targets own) (hsm : Small base needs targets own) (hm : MaxOk w) (hc : cmd.size ≤ 1000)
    (hws : words cmd = ws) (hn : ws.length = n) (hn9 : n ≤ 1001) (hwd0 : ws[0]? = some (⟨#[112, 117, 116]⟩ : ByteArray)) (hcond : n < 3) (hr : r = (4, own)) :
    Calls Tryd.prog 17 #[.pointer (some ⟨g, 0, none⟩), .string cmd] w (RunPost g base needs targets r w) := by
  have hcond' := hcond
  have hpos : 1 ≤ n := by have := (List.getElem?_eq_some_iff.1 hwd0).1; omega
  have i0 : (0 : Int) < (n : Int) := by omega
  have t3 : decide ((3 : Int) ≤ (n : Int)) = false := decide_eq_false (by omega)
  clear hcond hcond'
  have HOV := Lib.hid h
  have HW := Lib.hid hws
  have HN := Lib.hid hn
  have HRR := Lib.hid hr
  clear h hws hn hr
  go_enter Tryd.func17, Tryd.ntmps17
  go_wp2_with fail
  refine (split_any cmd w (by omega) hm).mono ?_
  rintro e w1 ⟨rfl, hr1, hb1⟩
  rw [HW.out, HN.out] at hr1
  rw [HW.out, HN.out]
  have hbx := (Below.refl w1.heap.size w1).alloc (Nat.le_refl _) (.cells #[.slice (some ⟨w.heap.size, 0, none⟩) n n] 32)
  have hb2 : Below w.heap.size w (w1.alloc (.cells #[.slice (some ⟨w.heap.size, 0, none⟩) n n] 32)) := hb1.trans (hbx.mono hb1.size)
  have hr2 := hr1.belowS hbx
  have HR2 := Lib.hid hr2
  have HO2 := Lib.hid (HOV.out.below hb2)
  have x0 : (w1.alloc (.cells #[.slice (some ⟨w.heap.size, 0, none⟩) n n] 32)).cell? ⟨w1.heap.size, 0, none⟩ = some (.slice (some ⟨w.heap.size, 0, none⟩) n n) := by rw [World.cell?_alloc_at _ _ _ _ rfl]; rfl
  have X0 := Lib.hid x0
  have c0 : (w1.alloc (.cells #[.slice (some ⟨w.heap.size, 0, none⟩) n n] 32)).cell? ⟨w.heap.size, 0, none⟩ = some (.string (⟨#[112, 117, 116]⟩ : ByteArray)) := by
    obtain ⟨b, off, e, _, hcell⟩ := hr2.at_ (hwd0)
    injection e with e
    injection e with e1 e2
    subst e1; subst e2
    simpa using hcell
  have HSZ := Lib.hid (show (w1.alloc (.cells #[.slice (some ⟨w.heap.size, 0, none⟩) n n] 32)).heap.size = w1.heap.size + 1 by simp)
  have hw1 := hb1.size
  clear hr1 hbx hr2 x0
  go_wp2
  go_ret
  exact ⟨by rw [HRR.out]; rfl, by rw [HRR.out]; exact HO2.out, grown_below hb2 _⟩

set_option maxHeartbeats 2000000 in
set_option maxRecDepth 100000 in
theorem run_copy_no (g : Nat) (base : List F) (needs targets : List ByteArray) (own : List F) (cmd : ByteArray) (ws : List ByteArray) (n : Nat) (r : Int × List F) (w : World) (h : OvA w g base needs targets own) (hsm : Small base needs targets own) (hm : MaxOk w) (hc : cmd.size ≤ 1000)
    (hws : words cmd = ws) (hn : ws.length = n) (hn9 : n ≤ 1001) (hwd0 : ws[0]? = some (⟨#[99, 111, 112, 121]⟩ : ByteArray)) (hcond : n ≠ 3) (hr : r = (4, own)) :
    Calls Tryd.prog 17 #[.pointer (some ⟨g, 0, none⟩), .string cmd] w (RunPost g base needs targets r w) := by
  have hcond' := hcond
  have hpos : 1 ≤ n := by have := (List.getElem?_eq_some_iff.1 hwd0).1; omega
  have i0 : (0 : Int) < (n : Int) := by omega
  have q3 : ((n : Int) == 3) = false := by rw [beq_eq_false_iff_ne]; omega
  clear hcond hcond'
  have HOV := Lib.hid h
  have HW := Lib.hid hws
  have HN := Lib.hid hn
  have HRR := Lib.hid hr
  clear h hws hn hr
  go_enter Tryd.func17, Tryd.ntmps17
  go_wp2_with fail
  refine (split_any cmd w (by omega) hm).mono ?_
  rintro e w1 ⟨rfl, hr1, hb1⟩
  rw [HW.out, HN.out] at hr1
  rw [HW.out, HN.out]
  have hbx := (Below.refl w1.heap.size w1).alloc (Nat.le_refl _) (.cells #[.slice (some ⟨w.heap.size, 0, none⟩) n n] 32)
  have hb2 : Below w.heap.size w (w1.alloc (.cells #[.slice (some ⟨w.heap.size, 0, none⟩) n n] 32)) := hb1.trans (hbx.mono hb1.size)
  have hr2 := hr1.belowS hbx
  have HR2 := Lib.hid hr2
  have HO2 := Lib.hid (HOV.out.below hb2)
  have x0 : (w1.alloc (.cells #[.slice (some ⟨w.heap.size, 0, none⟩) n n] 32)).cell? ⟨w1.heap.size, 0, none⟩ = some (.slice (some ⟨w.heap.size, 0, none⟩) n n) := by rw [World.cell?_alloc_at _ _ _ _ rfl]; rfl
  have X0 := Lib.hid x0
  have c0 : (w1.alloc (.cells #[.slice (some ⟨w.heap.size, 0, none⟩) n n] 32)).cell? ⟨w.heap.size, 0, none⟩ = some (.string (⟨#[99, 111, 112, 121]⟩ : ByteArray)) := by
    obtain ⟨b, off, e, _, hcell⟩ := hr2.at_ (hwd0)
    injection e with e
    injection e with e1 e2
    subst e1; subst e2
    simpa using hcell
  have HSZ := Lib.hid (show (w1.alloc (.cells #[.slice (some ⟨w.heap.size, 0, none⟩) n n] 32)).heap.size = w1.heap.size + 1 by simp)
  have hw1 := hb1.size
  clear hr1 hbx hr2 x0
  go_wp2
  go_ret
  exact ⟨by rw [HRR.out]; rfl, by rw [HRR.out]; exact HO2.out, grown_below hb2 _⟩

set_option maxHeartbeats 2000000 in
set_option maxRecDepth 100000 in
theorem run_turn_no (g : Nat) (base : List F) (needs targets : List ByteArray) (own : List F) (cmd : ByteArray) (ws : List ByteArray) (n : Nat) (r : Int × List F) (w : World) (h : OvA w g base needs targets own) (hsm : Small base needs targets own) (hm : MaxOk w) (hc : cmd.size ≤ 1000)
    (hws : words cmd = ws) (hn : ws.length = n) (hn9 : n ≤ 1001) (hwd0 : ws[0]? = some (⟨#[116, 117, 114, 110]⟩ : ByteArray)) (hcond : n ≠ 3) (hr : r = (4, own)) :
    Calls Tryd.prog 17 #[.pointer (some ⟨g, 0, none⟩), .string cmd] w (RunPost g base needs targets r w) := by
  have hcond' := hcond
  have hpos : 1 ≤ n := by have := (List.getElem?_eq_some_iff.1 hwd0).1; omega
  have i0 : (0 : Int) < (n : Int) := by omega
  have q3 : ((n : Int) == 3) = false := by rw [beq_eq_false_iff_ne]; omega
  clear hcond hcond'
  have HOV := Lib.hid h
  have HW := Lib.hid hws
  have HN := Lib.hid hn
  have HRR := Lib.hid hr
  clear h hws hn hr
  go_enter Tryd.func17, Tryd.ntmps17
  go_wp2_with fail
  refine (split_any cmd w (by omega) hm).mono ?_
  rintro e w1 ⟨rfl, hr1, hb1⟩
  rw [HW.out, HN.out] at hr1
  rw [HW.out, HN.out]
  have hbx := (Below.refl w1.heap.size w1).alloc (Nat.le_refl _) (.cells #[.slice (some ⟨w.heap.size, 0, none⟩) n n] 32)
  have hb2 : Below w.heap.size w (w1.alloc (.cells #[.slice (some ⟨w.heap.size, 0, none⟩) n n] 32)) := hb1.trans (hbx.mono hb1.size)
  have hr2 := hr1.belowS hbx
  have HR2 := Lib.hid hr2
  have HO2 := Lib.hid (HOV.out.below hb2)
  have x0 : (w1.alloc (.cells #[.slice (some ⟨w.heap.size, 0, none⟩) n n] 32)).cell? ⟨w1.heap.size, 0, none⟩ = some (.slice (some ⟨w.heap.size, 0, none⟩) n n) := by rw [World.cell?_alloc_at _ _ _ _ rfl]; rfl
  have X0 := Lib.hid x0
  have c0 : (w1.alloc (.cells #[.slice (some ⟨w.heap.size, 0, none⟩) n n] 32)).cell? ⟨w.heap.size, 0, none⟩ = some (.string (⟨#[116, 117, 114, 110]⟩ : ByteArray)) := by
    obtain ⟨b, off, e, _, hcell⟩ := hr2.at_ (hwd0)
    injection e with e
    injection e with e1 e2
    subst e1; subst e2
    simpa using hcell
  have HSZ := Lib.hid (show (w1.alloc (.cells #[.slice (some ⟨w.heap.size, 0, none⟩) n n] 32)).heap.size = w1.heap.size + 1 by simp)
  have hw1 := hb1.size
  clear hr1 hbx hr2 x0
  go_wp2
  go_ret
  exact ⟨by rw [HRR.out]; rfl, by rw [HRR.out]; exact HO2.out, grown_below hb2 _⟩

set_option maxHeartbeats 2000000 in
set_option maxRecDepth 100000 in
theorem run_swap_no (g : Nat) (base : List F) (needs targets : List ByteArray) (own : List F) (cmd : ByteArray) (ws : List ByteArray) (n : Nat) (r : Int × List F) (w : World) (h : OvA w g base needs targets own) (hsm : Small base needs targets own) (hm : MaxOk w) (hc : cmd.size ≤ 1000)
    (hws : words cmd = ws) (hn : ws.length = n) (hn9 : n ≤ 1001) (hwd0 : ws[0]? = some (⟨#[115, 119, 97, 112]⟩ : ByteArray)) (hcond : n ≠ 5) (hr : r = (4, own)) :
    Calls Tryd.prog 17 #[.pointer (some ⟨g, 0, none⟩), .string cmd] w (RunPost g base needs targets r w) := by
  have hcond' := hcond
  have hpos : 1 ≤ n := by have := (List.getElem?_eq_some_iff.1 hwd0).1; omega
  have i0 : (0 : Int) < (n : Int) := by omega
  have q5 : ((n : Int) == 5) = false := by rw [beq_eq_false_iff_ne]; omega
  clear hcond hcond'
  have HOV := Lib.hid h
  have HW := Lib.hid hws
  have HN := Lib.hid hn
  have HRR := Lib.hid hr
  clear h hws hn hr
  go_enter Tryd.func17, Tryd.ntmps17
  go_wp2_with fail
  refine (split_any cmd w (by omega) hm).mono ?_
  rintro e w1 ⟨rfl, hr1, hb1⟩
  rw [HW.out, HN.out] at hr1
  rw [HW.out, HN.out]
  have hbx := (Below.refl w1.heap.size w1).alloc (Nat.le_refl _) (.cells #[.slice (some ⟨w.heap.size, 0, none⟩) n n] 32)
  have hb2 : Below w.heap.size w (w1.alloc (.cells #[.slice (some ⟨w.heap.size, 0, none⟩) n n] 32)) := hb1.trans (hbx.mono hb1.size)
  have hr2 := hr1.belowS hbx
  have HR2 := Lib.hid hr2
  have HO2 := Lib.hid (HOV.out.below hb2)
  have x0 : (w1.alloc (.cells #[.slice (some ⟨w.heap.size, 0, none⟩) n n] 32)).cell? ⟨w1.heap.size, 0, none⟩ = some (.slice (some ⟨w.heap.size, 0, none⟩) n n) := by rw [World.cell?_alloc_at _ _ _ _ rfl]; rfl
  have X0 := Lib.hid x0
  have c0 : (w1.alloc (.cells #[.slice (some ⟨w.heap.size, 0, none⟩) n n] 32)).cell? ⟨w.heap.size, 0, none⟩ = some (.string (⟨#[115, 119, 97, 112]⟩ : ByteArray)) := by
    obtain ⟨b, off, e, _, hcell⟩ := hr2.at_ (hwd0)
    injection e with e
    injection e with e1 e2
    subst e1; subst e2
    simpa using hcell
  have HSZ := Lib.hid (show (w1.alloc (.cells #[.slice (some ⟨w.heap.size, 0, none⟩) n n] 32)).heap.size = w1.heap.size + 1 by simp)
  have hw1 := hb1.size
  clear hr1 hbx hr2 x0
  go_wp2
  go_ret
  exact ⟨by rw [HRR.out]; rfl, by rw [HRR.out]; exact HO2.out, grown_below hb2 _⟩

set_option maxHeartbeats 2000000 in
set_option maxRecDepth 100000 in
theorem run_join_no (g : Nat) (base : List F) (needs targets : List ByteArray) (own : List F) (cmd : ByteArray) (ws : List ByteArray) (n : Nat) (r : Int × List F) (w : World) (h : OvA w g base needs targets own) (hsm : Small base needs targets own) (hm : MaxOk w) (hc : cmd.size ≤ 1000)
    (hws : words cmd = ws) (hn : ws.length = n) (hn9 : n ≤ 1001) (hwd0 : ws[0]? = some (⟨#[106, 111, 105, 110]⟩ : ByteArray)) (hcond : n < 3) (hr : r = (4, own)) :
    Calls Tryd.prog 17 #[.pointer (some ⟨g, 0, none⟩), .string cmd] w (RunPost g base needs targets r w) := by
  have hcond' := hcond
  have hpos : 1 ≤ n := by have := (List.getElem?_eq_some_iff.1 hwd0).1; omega
  have i0 : (0 : Int) < (n : Int) := by omega
  have t3 : decide ((3 : Int) ≤ (n : Int)) = false := decide_eq_false (by omega)
  clear hcond hcond'
  have HOV := Lib.hid h
  have HW := Lib.hid hws
  have HN := Lib.hid hn
  have HRR := Lib.hid hr
  clear h hws hn hr
  go_enter Tryd.func17, Tryd.ntmps17
  go_wp2_with fail
  refine (split_any cmd w (by omega) hm).mono ?_
  rintro e w1 ⟨rfl, hr1, hb1⟩
  rw [HW.out, HN.out] at hr1
  rw [HW.out, HN.out]
  have hbx := (Below.refl w1.heap.size w1).alloc (Nat.le_refl _) (.cells #[.slice (some ⟨w.heap.size, 0, none⟩) n n] 32)
  have hb2 : Below w.heap.size w (w1.alloc (.cells #[.slice (some ⟨w.heap.size, 0, none⟩) n n] 32)) := hb1.trans (hbx.mono hb1.size)
  have hr2 := hr1.belowS hbx
  have HR2 := Lib.hid hr2
  have HO2 := Lib.hid (HOV.out.below hb2)
  have x0 : (w1.alloc (.cells #[.slice (some ⟨w.heap.size, 0, none⟩) n n] 32)).cell? ⟨w1.heap.size, 0, none⟩ = some (.slice (some ⟨w.heap.size, 0, none⟩) n n) := by rw [World.cell?_alloc_at _ _ _ _ rfl]; rfl
  have X0 := Lib.hid x0
  have c0 : (w1.alloc (.cells #[.slice (some ⟨w.heap.size, 0, none⟩) n n] 32)).cell? ⟨w.heap.size, 0, none⟩ = some (.string (⟨#[106, 111, 105, 110]⟩ : ByteArray)) := by
    obtain ⟨b, off, e, _, hcell⟩ := hr2.at_ (hwd0)
    injection e with e
    injection e with e1 e2
    subst e1; subst e2
    simpa using hcell
  have HSZ := Lib.hid (show (w1.alloc (.cells #[.slice (some ⟨w.heap.size, 0, none⟩) n n] 32)).heap.size = w1.heap.size + 1 by simp)
  have hw1 := hb1.size
  clear hr1 hbx hr2 x0
  go_wp2
  go_ret
  exact ⟨by rw [HRR.out]; rfl, by rw [HRR.out]; exact HO2.out, grown_below hb2 _⟩

set_option maxHeartbeats 2000000 in
set_option maxRecDepth 100000 in
theorem run_need_no (g : Nat) (base : List F) (needs targets : List ByteArray) (own : List F) (cmd : ByteArray) (ws : List ByteArray) (n : Nat) (r : Int × List F) (w : World) (h : OvA w g base needs targets own) (hsm : Small base needs targets own) (hm : MaxOk w) (hc : cmd.size ≤ 1000)
    (hws : words cmd = ws) (hn : ws.length = n) (hn9 : n ≤ 1001) (hwd0 : ws[0]? = some (⟨#[110, 101, 101, 100]⟩ : ByteArray)) (hcond : n ≠ 2) (hr : r = (4, own)) :
    Calls Tryd.prog 17 #[.pointer (some ⟨g, 0, none⟩), .string cmd] w (RunPost g base needs targets r w) := by
  have hcond' := hcond
  have hpos : 1 ≤ n := by have := (List.getElem?_eq_some_iff.1 hwd0).1; omega
  have i0 : (0 : Int) < (n : Int) := by omega
  have q2 : ((n : Int) == 2) = false := by rw [beq_eq_false_iff_ne]; omega
  clear hcond hcond'
  have HOV := Lib.hid h
  have HW := Lib.hid hws
  have HN := Lib.hid hn
  have HRR := Lib.hid hr
  clear h hws hn hr
  go_enter Tryd.func17, Tryd.ntmps17
  go_wp2_with fail
  refine (split_any cmd w (by omega) hm).mono ?_
  rintro e w1 ⟨rfl, hr1, hb1⟩
  rw [HW.out, HN.out] at hr1
  rw [HW.out, HN.out]
  have hbx := (Below.refl w1.heap.size w1).alloc (Nat.le_refl _) (.cells #[.slice (some ⟨w.heap.size, 0, none⟩) n n] 32)
  have hb2 : Below w.heap.size w (w1.alloc (.cells #[.slice (some ⟨w.heap.size, 0, none⟩) n n] 32)) := hb1.trans (hbx.mono hb1.size)
  have hr2 := hr1.belowS hbx
  have HR2 := Lib.hid hr2
  have HO2 := Lib.hid (HOV.out.below hb2)
  have x0 : (w1.alloc (.cells #[.slice (some ⟨w.heap.size, 0, none⟩) n n] 32)).cell? ⟨w1.heap.size, 0, none⟩ = some (.slice (some ⟨w.heap.size, 0, none⟩) n n) := by rw [World.cell?_alloc_at _ _ _ _ rfl]; rfl
  have X0 := Lib.hid x0
  have c0 : (w1.alloc (.cells #[.slice (some ⟨w.heap.size, 0, none⟩) n n] 32)).cell? ⟨w.heap.size, 0, none⟩ = some (.string (⟨#[110, 101, 101, 100]⟩ : ByteArray)) := by
    obtain ⟨b, off, e, _, hcell⟩ := hr2.at_ (hwd0)
    injection e with e
    injection e with e1 e2
    subst e1; subst e2
    simpa using hcell
  have HSZ := Lib.hid (show (w1.alloc (.cells #[.slice (some ⟨w.heap.size, 0, none⟩) n n] 32)).heap.size = w1.heap.size + 1 by simp)
  have hw1 := hb1.size
  clear hr1 hbx hr2 x0
  go_wp2
  go_ret
  exact ⟨by rw [HRR.out]; rfl, by rw [HRR.out]; exact HO2.out, grown_below hb2 _⟩

set_option maxHeartbeats 2000000 in
set_option maxRecDepth 100000 in
theorem run_fail_no (g : Nat) (base : List F) (needs targets : List ByteArray) (own : List F) (cmd : ByteArray) (ws : List ByteArray) (n : Nat) (r : Int × List F) (w : World) (h : OvA w g base needs targets own) (hsm : Small base needs targets own) (hm : MaxOk w) (hc : cmd.size ≤ 1000)
    (hws : words cmd = ws) (hn : ws.length = n) (hn9 : n ≤ 1001) (hwd0 : ws[0]? = some (⟨#[102, 97, 105, 108]⟩ : ByteArray)) (hcond : n ≠ 1) (hr : r = (4, own)) :
    Calls Tryd.prog 17 #[.pointer (some ⟨g, 0, none⟩), .string cmd] w (RunPost g base needs targets r w) := by
  have hcond' := hcond
  have hpos : 1 ≤ n := by have := (List.getElem?_eq_some_iff.1 hwd0).1; omega
  have i0 : (0 : Int) < (n : Int) := by omega
  have q1 : ((n : Int) == 1) = false := by rw [beq_eq_false_iff_ne]; omega
  clear hcond hcond'
  have HOV := Lib.hid h
  have HW := Lib.hid hws
  have HN := Lib.hid hn
  have HRR := Lib.hid hr
  clear h hws hn hr
  go_enter Tryd.func17, Tryd.ntmps17
  go_wp2_with fail
  refine (split_any cmd w (by omega) hm).mono ?_
  rintro e w1 ⟨rfl, hr1, hb1⟩
  rw [HW.out, HN.out] at hr1
  rw [HW.out, HN.out]
  have hbx := (Below.refl w1.heap.size w1).alloc (Nat.le_refl _) (.cells #[.slice (some ⟨w.heap.size, 0, none⟩) n n] 32)
  have hb2 : Below w.heap.size w (w1.alloc (.cells #[.slice (some ⟨w.heap.size, 0, none⟩) n n] 32)) := hb1.trans (hbx.mono hb1.size)
  have hr2 := hr1.belowS hbx
  have HR2 := Lib.hid hr2
  have HO2 := Lib.hid (HOV.out.below hb2)
  have x0 : (w1.alloc (.cells #[.slice (some ⟨w.heap.size, 0, none⟩) n n] 32)).cell? ⟨w1.heap.size, 0, none⟩ = some (.slice (some ⟨w.heap.size, 0, none⟩) n n) := by rw [World.cell?_alloc_at _ _ _ _ rfl]; rfl
  have X0 := Lib.hid x0
  have c0 : (w1.alloc (.cells #[.slice (some ⟨w.heap.size, 0, none⟩) n n] 32)).cell? ⟨w.heap.size, 0, none⟩ = some (.string (⟨#[102, 97, 105, 108]⟩ : ByteArray)) := by
    obtain ⟨b, off, e, _, hcell⟩ := hr2.at_ (hwd0)
    injection e with e
    injection e with e1 e2
    subst e1; subst e2
    simpa using hcell
  have HSZ := Lib.hid (show (w1.alloc (.cells #[.slice (some ⟨w.heap.size, 0, none⟩) n n] 32)).heap.size = w1.heap.size + 1 by simp)
  have hw1 := hb1.size
  clear hr1 hbx hr2 x0
  go_wp2
  go_ret
  exact ⟨by rw [HRR.out]; rfl, by rw [HRR.out]; exact HO2.out, grown_below hb2 _⟩

set_option maxHeartbeats 2000000 in
set_option maxRecDepth 100000 in
theorem run_swap_n3 (g : Nat) (base : List F) (needs targets : List ByteArray) (own : List F) (cmd : ByteArray) (ws : List ByteArray) (n : Nat) (r : Int × List F) (W3 : ByteArray) (w : World) (h : OvA w g base needs targets own) (hsm : Small base needs targets own) (hm : MaxOk w) (hc : cmd.size ≤ 1000)
    (hws : words cmd = ws) (hn : ws.length = n) (hn9 : n ≤ 1001) (hwd0 : ws[0]? = some (⟨#[115, 119, 97, 112]⟩ : ByteArray)) (hwd3 : ws[3]? = some W3) (hcond : n = 5) (hs3 : W3.size ≠ 1) (hr : r = (4, own)) :
    Calls Tryd.prog 17 #[.pointer (some ⟨g, 0, none⟩), .string cmd] w (RunPost g base needs targets r w) := by
  have hcond' := hcond
  have hpos : 1 ≤ n := by have := (List.getElem?_eq_some_iff.1 hwd0).1; omega
  have i0 : (0 : Int) < (n : Int) := by omega
  have q5 : ((n : Int) == 5) = true := by rw [beq_iff_eq]; omega
  have i3 : (3 : Int) < (n : Int) := by omega
  have i4 : (4 : Int) < (n : Int) := by omega
  have z3 : ((W3.size : Int) == 1) = false := by rw [beq_eq_false_iff_ne]; omega
  clear hcond hcond' hs3
  have HOV := Lib.hid h
  have HW := Lib.hid hws
  have HN := Lib.hid hn
  have HRR := Lib.hid hr
  clear h hws hn hr
  go_enter Tryd.func17, Tryd.ntmps17
  go_wp2_with fail
  refine (split_any cmd w (by omega) hm).mono ?_
  rintro e w1 ⟨rfl, hr1, hb1⟩
  rw [HW.out, HN.out] at hr1
  rw [HW.out, HN.out]
  have hbx := (Below.refl w1.heap.size w1).alloc (Nat.le_refl _) (.cells #[.slice (some ⟨w.heap.size, 0, none⟩) n n] 32)
  have hb2 : Below w.heap.size w (w1.alloc (.cells #[.slice (some ⟨w.heap.size, 0, none⟩) n n] 32)) := hb1.trans (hbx.mono hb1.size)
  have hr2 := hr1.belowS hbx
  have HR2 := Lib.hid hr2
  have HO2 := Lib.hid (HOV.out.below hb2)
  have x0 : (w1.alloc (.cells #[.slice (some ⟨w.heap.size, 0, none⟩) n n] 32)).cell? ⟨w1.heap.size, 0, none⟩ = some (.slice (some ⟨w.heap.size, 0, none⟩) n n) := by rw [World.cell?_alloc_at _ _ _ _ rfl]; rfl
  have X0 := Lib.hid x0
  have c0 : (w1.alloc (.cells #[.slice (some ⟨w.heap.size, 0, none⟩) n n] 32)).cell? ⟨w.heap.size, 0, none⟩ = some (.string (⟨#[115, 119, 97, 112]⟩ : ByteArray)) := by
    obtain ⟨b, off, e, _, hcell⟩ := hr2.at_ (hwd0)
    injection e with e
    injection e with e1 e2
    subst e1; subst e2
    simpa using hcell
  have c3 : (w1.alloc (.cells #[.slice (some ⟨w.heap.size, 0, none⟩) n n] 32)).cell? ⟨w.heap.size, 3, none⟩ = some (.string W3) := by
    obtain ⟨b, off, e, _, hcell⟩ := hr2.at_ (hwd3)
    injection e with e
    injection e with e1 e2
    subst e1; subst e2
    simpa using hcell
  have HSZ := Lib.hid (show (w1.alloc (.cells #[.slice (some ⟨w.heap.size, 0, none⟩) n n] 32)).heap.size = w1.heap.size + 1 by simp)
  have hw1 := hb1.size
  clear hr1 hbx hr2 x0
  go_wp2
  go_ret
  exact ⟨by rw [HRR.out]; rfl, by rw [HRR.out]; exact HO2.out, grown_below hb2 _⟩

set_option maxHeartbeats 2000000 in
set_option maxRecDepth 100000 in
theorem run_swap_n4 (g : Nat) (base : List F) (needs targets : List ByteArray) (own : List F) (cmd : ByteArray) (ws : List ByteArray) (n : Nat) (r : Int × List F) (W3 W4 : ByteArray) (w : World) (h : OvA w g base needs targets own) (hsm : Small base needs targets own) (hm : MaxOk w) (hc : cmd.size ≤ 1000)
    (hws : words cmd = ws) (hn : ws.length = n) (hn9 : n ≤ 1001) (hwd0 : ws[0]? = some (⟨#[115, 119, 97, 112]⟩ : ByteArray)) (hwd3 : ws[3]? = some W3) (hwd4 : ws[4]? = some W4) (hcond : n = 5) (hs3 : W3.size = 1) (hs4 : W4.size ≠ 1) (hr : r = (4, own)) :
    Calls Tryd.prog 17 #[.pointer (some ⟨g, 0, none⟩), .string cmd] w (RunPost g base needs targets r w) := by
  have hcond' := hcond
  have hpos : 1 ≤ n := by have := (List.getElem?_eq_some_iff.1 hwd0).1; omega
  have i0 : (0 : Int) < (n : Int) := by omega
  have q5 : ((n : Int) == 5) = true := by rw [beq_iff_eq]; omega
  have i3 : (3 : Int) < (n : Int) := by omega
  have i4 : (4 : Int) < (n : Int) := by omega
  have z3 : ((W3.size : Int) == 1) = true := by rw [beq_iff_eq]; omega
  have z4 : ((W4.size : Int) == 1) = false := by rw [beq_eq_false_iff_ne]; omega
  clear hcond hcond' hs3 hs4
  have HOV := Lib.hid h
  have HW := Lib.hid hws
  have HN := Lib.hid hn
  have HRR := Lib.hid hr
  clear h hws hn hr
  go_enter Tryd.func17, Tryd.ntmps17
  go_wp2_with fail
  refine (split_any cmd w (by omega) hm).mono ?_
  rintro e w1 ⟨rfl, hr1, hb1⟩
  rw [HW.out, HN.out] at hr1
  rw [HW.out, HN.out]
  have hbx := (Below.refl w1.heap.size w1).alloc (Nat.le_refl _) (.cells #[.slice (some ⟨w.heap.size, 0, none⟩) n n] 32)
  have hb2 : Below w.heap.size w (w1.alloc (.cells #[.slice (some ⟨w.heap.size, 0, none⟩) n n] 32)) := hb1.trans (hbx.mono hb1.size)
  have hr2 := hr1.belowS hbx
  have HR2 := Lib.hid hr2
  have HO2 := Lib.hid (HOV.out.below hb2)
  have x0 : (w1.alloc (.cells #[.slice (some ⟨w.heap.size, 0, none⟩) n n] 32)).cell? ⟨w1.heap.size, 0, none⟩ = some (.slice (some ⟨w.heap.size, 0, none⟩) n n) := by rw [World.cell?_alloc_at _ _ _ _ rfl]; rfl
  have X0 := Lib.hid x0
  have c0 : (w1.alloc (.cells #[.slice (some ⟨w.heap.size, 0, none⟩) n n] 32)).cell? ⟨w.heap.size, 0, none⟩ = some (.string (⟨#[115, 119, 97, 112]⟩ : ByteArray)) := by
    obtain ⟨b, off, e, _, hcell⟩ := hr2.at_ (hwd0)
    injection e with e
    injection e with e1 e2
    subst e1; subst e2
    simpa using hcell
  have c3 : (w1.alloc (.cells #[.slice (some ⟨w.heap.size, 0, none⟩) n n] 32)).cell? ⟨w.heap.size, 3, none⟩ = some (.string W3) := by
    obtain ⟨b, off, e, _, hcell⟩ := hr2.at_ (hwd3)
    injection e with e
    injection e with e1 e2
    subst e1; subst e2
    simpa using hcell
  have c4 : (w1.alloc (.cells #[.slice (some ⟨w.heap.size, 0, none⟩) n n] 32)).cell? ⟨w.heap.size, 4, none⟩ = some (.string W4) := by
    obtain ⟨b, off, e, _, hcell⟩ := hr2.at_ (hwd4)
    injection e with e
    injection e with e1 e2
    subst e1; subst e2
    simpa using hcell
  have HSZ := Lib.hid (show (w1.alloc (.cells #[.slice (some ⟨w.heap.size, 0, none⟩) n n] 32)).heap.size = w1.heap.size + 1 by simp)
  have hw1 := hb1.size
  clear hr1 hbx hr2 x0
  go_wp2
  go_ret
  exact ⟨by rw [HRR.out]; rfl, by rw [HRR.out]; exact HO2.out, grown_below hb2 _⟩

set_option maxHeartbeats 2000000 in
set_option maxRecDepth 100000 in
theorem run_none (g : Nat) (base : List F) (needs targets : List ByteArray) (own : List F) (cmd : ByteArray) (ws : List ByteArray) (n : Nat) (r : Int × List F) (W0 : ByteArray) (w : World) (h : OvA w g base needs targets own) (hsm : Small base needs targets own) (hm : MaxOk w) (hc : cmd.size ≤ 1000)
    (hws : words cmd = ws) (hn : ws.length = n) (hn9 : n ≤ 1001) (hwd0 : ws[0]? = some W0) (hx0 : W0 ≠ (⟨#[112, 117, 116]⟩ : ByteArray)) (hx1 : W0 ≠ (⟨#[99, 111, 112, 121]⟩ : ByteArray)) (hx2 : W0 ≠ (⟨#[116, 117, 114, 110]⟩ : ByteArray)) (hx3 : W0 ≠ (⟨#[115, 119, 97, 112]⟩ : ByteArray)) (hx4 : W0 ≠ (⟨#[106, 111, 105, 110]⟩ : ByteArray)) (hx5 : W0 ≠ (⟨#[110, 101, 101, 100]⟩ : ByteArray)) (hx6 : W0 ≠ (⟨#[102, 97, 105, 108]⟩ : ByteArray)) (hr : r = (4, own)) :
    Calls Tryd.prog 17 #[.pointer (some ⟨g, 0, none⟩), .string cmd] w (RunPost g base needs targets r w) := by
  have hpos : 1 ≤ n := by have := (List.getElem?_eq_some_iff.1 hwd0).1; omega
  have i0 : (0 : Int) < (n : Int) := by omega
  have y0 : (W0.toList == [112, 117, 116]) = false := by
    rw [beq_eq_false_iff_ne]
    intro e
    exact hx0 (toList_inj (e.trans (by rw [ByteArray.toList_eq])))
  have y1 : (W0.toList == [99, 111, 112, 121]) = false := by
    rw [beq_eq_false_iff_ne]
    intro e
    exact hx1 (toList_inj (e.trans (by rw [ByteArray.toList_eq])))
  have y2 : (W0.toList == [116, 117, 114, 110]) = false := by
    rw [beq_eq_false_iff_ne]
    intro e
    exact hx2 (toList_inj (e.trans (by rw [ByteArray.toList_eq])))
  have y3 : (W0.toList == [115, 119, 97, 112]) = false := by
    rw [beq_eq_false_iff_ne]
    intro e
    exact hx3 (toList_inj (e.trans (by rw [ByteArray.toList_eq])))
  have y4 : (W0.toList == [106, 111, 105, 110]) = false := by
    rw [beq_eq_false_iff_ne]
    intro e
    exact hx4 (toList_inj (e.trans (by rw [ByteArray.toList_eq])))
  have y5 : (W0.toList == [110, 101, 101, 100]) = false := by
    rw [beq_eq_false_iff_ne]
    intro e
    exact hx5 (toList_inj (e.trans (by rw [ByteArray.toList_eq])))
  have y6 : (W0.toList == [102, 97, 105, 108]) = false := by
    rw [beq_eq_false_iff_ne]
    intro e
    exact hx6 (toList_inj (e.trans (by rw [ByteArray.toList_eq])))
  clear hx0 hx1 hx2 hx3 hx4 hx5 hx6
  have HOV := Lib.hid h
  have HW := Lib.hid hws
  have HN := Lib.hid hn
  have HRR := Lib.hid hr
  clear h hws hn hr
  go_enter Tryd.func17, Tryd.ntmps17
  go_wp2_with fail
  refine (split_any cmd w (by omega) hm).mono ?_
  rintro e w1 ⟨rfl, hr1, hb1⟩
  rw [HW.out, HN.out] at hr1
  rw [HW.out, HN.out]
  have hbx := (Below.refl w1.heap.size w1).alloc (Nat.le_refl _) (.cells #[.slice (some ⟨w.heap.size, 0, none⟩) n n] 32)
  have hb2 : Below w.heap.size w (w1.alloc (.cells #[.slice (some ⟨w.heap.size, 0, none⟩) n n] 32)) := hb1.trans (hbx.mono hb1.size)
  have hr2 := hr1.belowS hbx
  have HR2 := Lib.hid hr2
  have HO2 := Lib.hid (HOV.out.below hb2)
  have x0 : (w1.alloc (.cells #[.slice (some ⟨w.heap.size, 0, none⟩) n n] 32)).cell? ⟨w1.heap.size, 0, none⟩ = some (.slice (some ⟨w.heap.size, 0, none⟩) n n) := by rw [World.cell?_alloc_at _ _ _ _ rfl]; rfl
  have X0 := Lib.hid x0
  have c0 : (w1.alloc (.cells #[.slice (some ⟨w.heap.size, 0, none⟩) n n] 32)).cell? ⟨w.heap.size, 0, none⟩ = some (.string W0) := by
    obtain ⟨b, off, e, _, hcell⟩ := hr2.at_ (hwd0)
    injection e with e
    injection e with e1 e2
    subst e1; subst e2
    simpa using hcell
  have HSZ := Lib.hid (show (w1.alloc (.cells #[.slice (some ⟨w.heap.size, 0, none⟩) n n] 32)).heap.size = w1.heap.size + 1 by simp)
  have hw1 := hb1.size
  clear hr1 hbx hr2 x0
  go_wp2
  go_ret
  exact ⟨by rw [HRR.out]; rfl, by rw [HRR.out]; exact HO2.out, grown_below hb2 _⟩

set_option maxHeartbeats 2000000 in
set_option maxRecDepth 100000 in
theorem run_fail (g : Nat) (base : List F) (needs targets : List ByteArray) (own : List F) (cmd : ByteArray) (ws : List ByteArray) (n : Nat) (r : Int × List F) (w : World) (h : OvA w g base needs targets own) (hsm : Small base needs targets own) (hm : MaxOk w) (hc : cmd.size ≤ 1000)
    (hws : words cmd = ws) (hn : ws.length = n) (hn9 : n ≤ 1001) (hwd0 : ws[0]? = some (⟨#[102, 97, 105, 108]⟩ : ByteArray)) (hcond : n = 1) (hr : r = (7, own)) :
    Calls Tryd.prog 17 #[.pointer (some ⟨g, 0, none⟩), .string cmd] w (RunPost g base needs targets r w) := by
  have hpos : 1 ≤ n := by omega
  have i0 : (0 : Int) < (n : Int) := by omega
  have q1 : ((n : Int) == 1) = true := by rw [beq_iff_eq]; omega
  have HC1 := Lib.hid hcond
  clear hcond
  have HOV := Lib.hid h
  have HW := Lib.hid hws
  have HN := Lib.hid hn
  have HRR := Lib.hid hr
  clear h hws hn hr
  go_enter Tryd.func17, Tryd.ntmps17
  go_wp2_with fail
  refine (split_any cmd w (by omega) hm).mono ?_
  rintro e w1 ⟨rfl, hr1, hb1⟩
  rw [HW.out, HN.out] at hr1
  rw [HW.out, HN.out]
  have hbx := (Below.refl w1.heap.size w1).alloc (Nat.le_refl _) (.cells #[.slice (some ⟨w.heap.size, 0, none⟩) n n] 32)
  have hb2 : Below w.heap.size w (w1.alloc (.cells #[.slice (some ⟨w.heap.size, 0, none⟩) n n] 32)) := hb1.trans (hbx.mono hb1.size)
  have hr2 := hr1.belowS hbx
  have HR2 := Lib.hid hr2
  have HO2 := Lib.hid (HOV.out.below hb2)
  have x0 : (w1.alloc (.cells #[.slice (some ⟨w.heap.size, 0, none⟩) n n] 32)).cell? ⟨w1.heap.size, 0, none⟩ = some (.slice (some ⟨w.heap.size, 0, none⟩) n n) := by rw [World.cell?_alloc_at _ _ _ _ rfl]; rfl
  have X0 := Lib.hid x0
  have c0 : (w1.alloc (.cells #[.slice (some ⟨w.heap.size, 0, none⟩) n n] 32)).cell? ⟨w.heap.size, 0, none⟩ = some (.string (⟨#[102, 97, 105, 108]⟩ : ByteArray)) := by
    obtain ⟨b, off, e, _, hcell⟩ := hr2.at_ (hwd0)
    injection e with e
    injection e with e1 e2
    subst e1; subst e2
    simpa using hcell
  have HSZ := Lib.hid (show (w1.alloc (.cells #[.slice (some ⟨w.heap.size, 0, none⟩) n n] 32)).heap.size = w1.heap.size + 1 by simp)
  have hw1 := hb1.size
  clear hr1 hbx hr2 x0
  go_wp2
  go_ret
  exact ⟨by rw [HRR.out]; rfl, by rw [HRR.out]; exact HO2.out, grown_below hb2 _⟩

set_option maxHeartbeats 2000000 in
set_option maxRecDepth 100000 in
theorem run_need (g : Nat) (base : List F) (needs targets : List ByteArray) (own : List F) (cmd : ByteArray) (ws : List ByteArray) (n : Nat) (r : Int × List F) (W1 : ByteArray) (w : World) (h : OvA w g base needs targets own) (hsm : Small base needs targets own) (hm : MaxOk w) (hc : cmd.size ≤ 1000)
    (hws : words cmd = ws) (hn : ws.length = n) (hn9 : n ≤ 1001) (hwd0 : ws[0]? = some (⟨#[110, 101, 101, 100]⟩ : ByteArray)) (hwd1 : ws[1]? = some W1) (hcond : n = 2) (hr : r = (needR base needs own W1, own)) :
    Calls Tryd.prog 17 #[.pointer (some ⟨g, 0, none⟩), .string cmd] w (RunPost g base needs targets r w) := by
  have hpos : 1 ≤ n := by omega
  have i0 : (0 : Int) < (n : Int) := by omega
  have i1 : (1 : Int) < (n : Int) := by omega
  have q2 : ((n : Int) == 2) = true := by rw [beq_iff_eq]; omega
  have HC1 := Lib.hid hcond
  clear hcond
  have HOV := Lib.hid h
  have HW := Lib.hid hws
  have HN := Lib.hid hn
  have HRR := Lib.hid hr
  clear h hws hn hr
  go_enter Tryd.func17, Tryd.ntmps17
  go_wp2_with fail
  refine (split_any cmd w (by omega) hm).mono ?_
  rintro e w1 ⟨rfl, hr1, hb1⟩
  rw [HW.out, HN.out] at hr1
  rw [HW.out, HN.out]
  have hbx := (Below.refl w1.heap.size w1).alloc (Nat.le_refl _) (.cells #[.slice (some ⟨w.heap.size, 0, none⟩) n n] 32)
  have hb2 : Below w.heap.size w (w1.alloc (.cells #[.slice (some ⟨w.heap.size, 0, none⟩) n n] 32)) := hb1.trans (hbx.mono hb1.size)
  have hr2 := hr1.belowS hbx
  have HR2 := Lib.hid hr2
  have HO2 := Lib.hid (HOV.out.below hb2)
  have x0 : (w1.alloc (.cells #[.slice (some ⟨w.heap.size, 0, none⟩) n n] 32)).cell? ⟨w1.heap.size, 0, none⟩ = some (.slice (some ⟨w.heap.size, 0, none⟩) n n) := by rw [World.cell?_alloc_at _ _ _ _ rfl]; rfl
  have X0 := Lib.hid x0
  have c0 : (w1.alloc (.cells #[.slice (some ⟨w.heap.size, 0, none⟩) n n] 32)).cell? ⟨w.heap.size, 0, none⟩ = some (.string (⟨#[110, 101, 101, 100]⟩ : ByteArray)) := by
    obtain ⟨b, off, e, _, hcell⟩ := hr2.at_ (hwd0)
    injection e with e
    injection e with e1 e2
    subst e1; subst e2
    simpa using hcell
  have c1 : (w1.alloc (.cells #[.slice (some ⟨w.heap.size, 0, none⟩) n n] 32)).cell? ⟨w.heap.size, 1, none⟩ = some (.string W1) := by
    obtain ⟨b, off, e, _, hcell⟩ := hr2.at_ (hwd1)
    injection e with e
    injection e with e1 e2
    subst e1; subst e2
    simpa using hcell
  have HSZ := Lib.hid (show (w1.alloc (.cells #[.slice (some ⟨w.heap.size, 0, none⟩) n n] 32)).heap.size = w1.heap.size + 1 by simp)
  have hw1 := hb1.size
  clear hr1 hbx hr2 x0
  go_wp2_with fail
  refine (need_any g base needs targets own W1 _ HO2.out hsm).mono ?_
  rintro e w3 ⟨rfl, hov, hg⟩
  have HV := Lib.hid hov
  clear hov
  go_wp2
  go_ret
  exact ⟨by rw [HRR.out]; rfl, by rw [HRR.out]; exact HV.out, grown_trans (grown_below hb2 _) hg⟩
end Go.Proofs.YtmadegpbinnnfaaDoor
