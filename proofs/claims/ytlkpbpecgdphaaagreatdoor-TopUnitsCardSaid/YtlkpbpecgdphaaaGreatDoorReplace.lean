/-
  WALKS: strings.genericReplacer.Replace, (*Replacer).build, buildOnce, NewReplacer, (*Replacer).Replace at the keys of expand.Auto.
-/
import Derived.Test.YtlkpbpecgdphaaaGreatDoorWrite
import Derived.Test.YtlkpbpecgdphaaaGreatDoorOnce
import Derived.Test.YtlkpbpecgdphaaaGreatDoorClone
import Derived.Laws.MakeOwn
namespace Go.Proofs.YtlkpbpecgdphaaaGreatDoor
open Go.RowKit

theorem ofCells (t : ByteArray) (j : Nat) (hj : j < t.size) : (Lib.strCells t)[j]? = some (.int .u8 ((t.data.toList[j]'(by simpa using hj)).toNat : Int)) := by
  simp [Lib.strCells, hj]
theorem conv_own {w : World} {B : Nat} {v : Value} {t : ByteArray} (h : w.ownsRow B tB 1 v t.size (Lib.strCells t)) : (convert tW 9 v).run Tryz.prog w = .ok (.string t) w := by
  rcases h.2 with ⟨rfl, h0⟩ | ⟨g, cap, cur, rfl, _⟩
  · obtain ⟨⟨l⟩⟩ := t
    have : l = [] := by have : l.length = 0 := h0; exact List.length_eq_zero_iff.1 this
    subst this
    rw [run_convert_bytes_string w tW 9 tB none 0 0 Tryz.underlying322 Tryz.underlying5 Tryz.underlying9]
    rfl
  · have hc := h.cells (g := g) rfl
    have := run_convert_bytes_back (P := Tryz.prog) w tW 9 tB ⟨g, 0, none⟩ cap t.data.toList Tryz.underlying322 Tryz.underlying5 Tryz.underlying9 (fun j hj => by
      have hj' : j < t.size := by simpa using hj
      rw [hc j _ (ofCells t j hj')])
    simpa using this
theorem make_buf (w : World) (n : Nat) (hn : n ≤ 1000000) : ∃ cs : Array Value, cs.size = n ∧ (Instr.makeSlice tW (.int .i64 0) (.int .i64 n)).run Tryz.prog w = .ok (.slice (some ⟨w.heap.size, 0, none⟩) 0 n) (w.alloc (.cells cs tB)) := by
  have hz1 : Tryz.t5.size = 1 := by kernel_rfl
  have hz2 : Tryz.t5.bytes = 1 := by kernel_rfl
  have h := run_makeSlice (P := Tryz.prog) w tW tB Tryz.t5 (.int .u8 0) Tryz.underlying322 (by kernel_rfl) (by kernel_rfl) .i64 .i64 0 n (by omega) (by omega) (by rw [hz1]; simp; omega) (by rw [hz2]; omega) (by omega)
  refine ⟨_, ?_, h⟩
  simp [madeCells, hz1]

set_option maxRecDepth 100000 in
set_option maxHeartbeats 1600000 in
theorem rep_any (G : Nat) (v0 v1 v2 v3 s : ByteArray) (w : World) (h : RepOk w G v0 v1 v2 v3) (hs : s.size ≤ 1000000) (hG : G + 8 ≤ w.heap.size) (hL : (autoL v0 v1 v2 v3 s.data.toList).length ≤ 1000000000) :
    Calls Tryz.prog 251 #[ptr G, .string s] w fun e w' => e = .returned (.string (ba (autoL v0 v1 v2 v3 s.data.toList))) ∧ Below w.heap.size w w' := by
  obtain ⟨cs, hcs, hmk⟩ := make_buf w s.size hs
  have hown := World.ownsRow_made (base := w.heap.size) (e := tB) (size := 1) w cs s.size (Nat.le_refl _) (by unfold maxLen; omega) (by omega)
  have hb1 : Below w.heap.size w ((w.alloc (.cells cs tB)).alloc (.cells #[.slice (some ⟨w.heap.size, 0, none⟩) 0 s.size] tW)) := ((Below.refl _ _).alloc (Nat.le_refl _) _).alloc (by simp) _
  have HW := Lib.hid (show WrAt ((w.alloc (.cells cs tB)).alloc (.cells #[.slice (some ⟨w.heap.size, 0, none⟩) 0 s.size] tW)) w.heap.size (w.heap.size + 1) ⟨#[]⟩ from
    ⟨by omega, _, by have := Blk.new (w.alloc (.cells cs tB)) tW #[.slice (some ⟨w.heap.size, 0, none⟩) 0 s.size]; simpa using this, hown.alloc _⟩)
  have HR := Lib.hid (h.below hb1 hG)
  have HB := Lib.hid hb1
  have hB1 := hb1.size
  clear h hown hb1 hcs
  go_enter Tryz.func251, Tryz.ntmps251
  go_wp2_with fail
  generalize (w.alloc (.cells cs tB)).alloc (.cells #[.slice (some ⟨w.heap.size, 0, none⟩) 0 s.size] tW) = w1 at *
  clear hmk
  refine (write_any G w.heap.size (w.heap.size + 1) v0 v1 v2 v3 s w1 HR.out hs hG hB1 HW.out hL).mono ?_
  rintro e w2 ⟨z, t, rfl, ht, ⟨_, v, hv, ho⟩, hb⟩
  have hcv := conv_own ho
  have c0 : w2.cell? ⟨w.heap.size + 1, 0, none⟩ = some v := hv.cell 0
  have HT := Lib.hid (show t = ba (autoL v0 v1 v2 v3 s.data.toList) by rw [← ht, ba_of])
  have HB2 := Lib.hid (HB.out.trans hb)
  clear ht hv ho hb
  go_wp2
  go_ret
  exact ⟨by rw [HT.out]; rfl, HB2.out⟩

abbrev tR : TypeId := 236
abbrev repC (d s : Int) (r o : Value) : Array Value := #[.int .u32 d, .int .i32 s, .int .u32 0, r, o]
theorem once_of {w : World} {R : Nat} {s : Int} {r o : Value} (h : Blk w R tR (repC 0 s r o)) : OnceAt w R s := ⟨h.cell 0, h.cell 1, h.free 0, h.free 1⟩

set_option maxRecDepth 100000 in
set_option maxHeartbeats 1600000 in
theorem build_any (R : Nat) (A : Option Addr) (c : Nat) (v0 v1 v2 v3 : ByteArray) (w : World) (h4 : w.cell? ⟨R, 4, none⟩ = some (.slice A 8 c)) (hr : RdS w w.heap.size A 8 c (keys4 v0 v1 v2 v3)) :
    Calls Tryz.prog 187 #[ptr R] w fun e w' => e = .returned (.iface 267 (ptr w.heap.size)) ∧ AdSt w w' v0 v1 v2 v3 4 := by
  have HG := Lib.hid (gen_any A c v0 v1 v2 v3 w hr)
  obtain ⟨b, off, rfl, hb, hc⟩ := hr.at_ (i := 0) (f := ⟨#[36, 64]⟩) rfl
  have hc0 : w.cell? ⟨b, off, none⟩ = some (.string ⟨#[36, 64]⟩) := hc
  have hsz : (⟨#[36, 64]⟩ : ByteArray).size = 2 := rfl
  clear hr hc
  go_enter Tryz.func187, Tryz.ntmps187
  go_wp2
  go_loop [2, 4, 5] (fun r a i => i = .int .i64 0) (fun _ _ _ => 0)
  case atStart => rfl
  case round =>
    subst hrel
    go_wp2_with (go_at_call 200; refine HG.out.mono ?_; rintro e w' ⟨rfl, ha⟩; have HA := Lib.hid ha; clear ha)
    go_ret
    exact ⟨rfl, HA.out⟩

def BoQ (w : World) (R : Nat) (v0 v1 v2 v3 : ByteArray) (s : Int) (w' : World) : Prop :=
  Blk w' R tR (repC 0 s (.iface 267 (ptr w.heap.size)) (.slice none 0 0)) ∧ RepOk w' w.heap.size v0 v1 v2 v3 ∧ Upd w w' (fun k => k = R) ∧ w.heap.size + 8 ≤ w'.heap.size

set_option maxRecDepth 100000 in
set_option maxHeartbeats 1600000 in
theorem buildOnce_any (R : Nat) (A : Option Addr) (c : Nat) (s : Int) (v0 v1 v2 v3 : ByteArray) (w : World) (hb : Blk w R tR (repC 0 s .nilIface (.slice A 8 c))) (hr : RdS w w.heap.size A 8 c (keys4 v0 v1 v2 v3)) :
    Calls Tryz.prog 177 #[ptr R] w fun e w' => e = .returned (.tuple #[]) ∧ BoQ w R v0 v1 v2 v3 s w' := by
  have HB := Lib.hid hb
  have hlt := hb.lt
  have HG := Lib.hid (build_any R A c v0 v1 v2 v3 w (hb.cell 4) hr)
  clear hb hr
  go_enter Tryz.func177, Tryz.ntmps177
  go_wp2_with fail
  refine HG.out.mono ?_
  rintro e w2 ⟨rfl, ha⟩
  have hb2 := HB.out.upd ha.upd (fun h => h)
  have c3 : w2.cell? ⟨R, 3, none⟩ = some .nilIface := hb2.cell 3
  have f3 := hb2.free 3
  have c4 : w2.cell? ⟨R, 4, none⟩ = some (.slice A 8 c) := hb2.cell 4
  have f4 := hb2.free 4
  have hb3 := hb2.set 3 (.iface 267 (ptr w.heap.size))
  have c4' : (w2.setCell ⟨R, 3, none⟩ (.iface 267 (ptr w.heap.size))).cell? ⟨R, 4, none⟩ = some (.slice A 8 c) := hb3.cell 4
  have f4' := hb3.free 4
  have HA := Lib.hid ha
  have HB2 := Lib.hid hb2
  clear ha hb2 hb3
  go_wp2
  go_end0
  have hsz : w2.heap.size = w.heap.size + 8 := HA.out.st.1
  refine ⟨rfl, (HB2.out.set 3 _).set 4 _, ?_, ((HA.out.upd.mono (S' := fun k => k = R) (fun _ _ h => h.elim)).set (b := R) (.inr rfl) _).set (b := R) (.inr rfl) _, by simp [World.setCell]; omega⟩
  exact HA.out.rep.keep (fun k h1 h2 => (Below.heap_setCell _ _ _ _ (by show k ≠ R; omega)).trans (Below.heap_setCell _ _ _ _ (by show k ≠ R; omega)))

theorem method_rep (a : Addr) (w : World) : (method 435 267 (.pointer (some a)) "Replace").run Tryz.prog w = .ok (251, .pointer (some a)) w := by kernel_rfl
set_option maxRecDepth 100000 in
set_option maxHeartbeats 1600000 in
theorem replacer_any (R : Nat) (A : Option Addr) (c : Nat) (v0 v1 v2 v3 s : ByteArray) (w : World) (hb : Blk w R tR (repC 0 0 .nilIface (.slice A 8 c))) (hr : RdS w w.heap.size A 8 c (keys4 v0 v1 v2 v3))
    (hA : ∀ a, A = some a → a.block ≠ R) (hs : s.size ≤ 1000000) (hL : (autoL v0 v1 v2 v3 s.data.toList).length ≤ 1000000000) :
    Calls Tryz.prog 159 #[ptr R, .string s] w fun e w' => e = .returned (.string (ba (autoL v0 v1 v2 v3 s.data.toList))) ∧ Upd w w' (fun k => k = R) := by
  have hb1 : Blk (w.setCell ⟨R, 1, none⟩ (.int .i32 1)) R tR (repC 0 1 .nilIface (.slice A 8 c)) := hb.set 1 _
  have hsz : (w.setCell ⟨R, 1, none⟩ (.int .i32 1)).heap.size = w.heap.size := by simp [World.setCell]
  have hr1 : RdS (w.setCell ⟨R, 1, none⟩ (.int .i32 1)) (w.setCell ⟨R, 1, none⟩ (.int .i32 1)).heap.size A 8 c (keys4 v0 v1 v2 v3) := by
    rw [hsz]
    refine ⟨hr.1, hr.2.1, hr.2.2.1, fun h => ?_⟩
    obtain ⟨b, off, e, hlt, hc⟩ := hr.2.2.2 h
    exact ⟨b, off, e, hlt, fun j u hu => (World.cell?_setCell_other _ ⟨R, 1, none⟩ ⟨b, off + j, none⟩ _ (by
      intro e2; injection e2 with e2; exact hA _ e e2.symm)).trans (hc j u hu)⟩
  have hq := buildOnce_any R A c 1 v0 v1 v2 v3 _ hb1 hr1
  have HD := Lib.hid (once_do R w (BoQ (w.setCell ⟨R, 1, none⟩ (.int .i32 1)) R v0 v1 v2 v3 1) (once_of hb) (fun w' h => once_of h.1) hq)
  have HZ := Lib.hid hsz
  have HU := Lib.hid ((Upd.refl w (fun k => k = R)).set (b := R) (i := 1) (.inr rfl) (.int .i32 1))
  have hlt := hb.lt
  have hme := method_rep
  clear hb hr hb1 hr1 hq hsz hA
  go_enter Tryz.func159, Tryz.ntmps159
  go_wp2_with fail
  refine HD.out.mono ?_
  rintro e w2 ⟨rfl, w1, ⟨q1, q2, q3, q4⟩, rfl⟩
  rw [HZ.out] at q1 q2 q4
  have hb2 : Blk ((w1.drew.setCell ⟨R, 0, none⟩ (.int .u32 1)).setCell ⟨R, 1, none⟩ (.int .i32 0)) R tR (repC 1 0 (.iface 267 (ptr w.heap.size)) (.slice none 0 0)) := (q1.drew.set 0 _).set 1 _
  have hrp : RepOk ((w1.drew.setCell ⟨R, 0, none⟩ (.int .u32 1)).setCell ⟨R, 1, none⟩ (.int .i32 0)) w.heap.size v0 v1 v2 v3 := q2.keep (fun k h1 h2 => (Below.heap_setCell _ _ _ _ (by show k ≠ R; omega)).trans (Below.heap_setCell _ _ _ _ (by show k ≠ R; omega)))
  have HU2 := Lib.hid ((((HU.out.trans q3 (fun _ _ h => h)).drew).set (b := R) (i := 0) (.inr rfl) (.int .u32 1)).set (b := R) (i := 1) (.inr rfl) (.int .i32 0))
  have hs2 : w.heap.size + 8 ≤ ((w1.drew.setCell ⟨R, 0, none⟩ (.int .u32 1)).setCell ⟨R, 1, none⟩ (.int .i32 0)).heap.size := by simp [World.setCell]; exact q4
  generalize (w1.drew.setCell ⟨R, 0, none⟩ (.int .u32 1)).setCell ⟨R, 1, none⟩ (.int .i32 0) = w3 at *
  have c3 : w3.cell? ⟨R, 3, none⟩ = some (.iface 267 (ptr w.heap.size)) := hb2.cell 3
  have HP := Lib.hid hrp
  clear q1 q2 q3 q4 hb2 hrp
  go_wp2_with (go_at_call 251; refine (rep_any w.heap.size v0 v1 v2 v3 s w3 HP.out hs hs2 hL).mono ?_; rintro e w4 ⟨rfl, hb4⟩; have HB4 := Lib.hid hb4; clear hb4)
  go_ret
  exact ⟨rfl, HB4.out.os.trans HU2.out.os, HB4.out.tape.trans HU2.out.tape, HB4.out.output.trans HU2.out.output, Nat.le_trans HU2.out.size HB4.out.size, fun k hk hn => (HB4.out.block k (by omega)).trans (HU2.out.block k hk hn)⟩

set_option maxRecDepth 100000 in
set_option maxHeartbeats 1600000 in
theorem newrep_any (A : Option Addr) (c : Nat) (l : List ByteArray) (w : World) (hr : RdS w w.heap.size A 8 c l) :
    Calls Tryz.prog 157 #[.slice A 8 c] w fun e w' => ∃ (R c' : Nat) (A' : Option Addr), e = .returned (ptr R) ∧ w.heap.size ≤ R ∧ Blk w' R tR (repC 0 0 .nilIface (.slice A' 8 c')) ∧ RdS w' w'.heap.size A' 8 c' l ∧ (∀ a, A' = some a → a.block ≠ R) ∧ Below w.heap.size w w' := by
  have HR := Lib.hid hr
  clear hr
  obtain ⟨i, hi, hz, hsz, hby⟩ : ∃ i : TypeInfo, Tryz.prog.info? 9 = some i ∧ i.zero = some (.string ByteArray.empty) ∧ i.size = 1 ∧ i.bytes = 16 := ⟨Tryz.t9, by kernel_rfl, by kernel_rfl, by kernel_rfl, by kernel_rfl⟩
  have HI := Lib.hid hi
  have HZ := Lib.hid hz
  have HS := Lib.hid hsz
  have HBy := Lib.hid hby
  clear hi hz hsz hby
  have HO := Lib.hid (show w.ownsRow w.heap.size 9 1 (.slice none 0 0) 0 (tcells []) from World.ownsRow_nil _ _ _ _)
  go_enter Tryz.func157, Tryz.ntmps157
  go_wp2_with (at_builtin; refine wpList_append_texts _ rfl (.const (.slice none 0 0)) (.tmp 8) _ rfl w.heap.size 9 i _ 16 Tryz.underlying27 HI.out HZ.out HS.out HBy.out rfl _ _ _ rfl HO.out _ _ 8 c l rfl HR.out ?_ ?_ ?_ ?_)
  · unfold maxLen; omega
  · omega
  · exact Nat.le_refl _
  intro v2 w2 ho2 hg2
  obtain ⟨A2, c2, rfl, hr2⟩ := RdS.of_own ho2
  have hb2 : Below w.heap.size w w2 := (Below.refl _ _).grown hg2 (Nat.le_refl _) (fun g' hg' => by cases hg')
  have HR2 := Lib.hid hr2
  have HB2 := Lib.hid hb2
  have hs2 := hb2.size
  clear ho2 hg2 hr2 hb2
  go_wp2
  go_ret
  have hb3 : Below w2.heap.size w2 (w2.alloc (.cells (repC 0 0 .nilIface (.slice A2 8 c2)) tR)) := (Below.refl _ _).alloc (Nat.le_refl _) _
  have hr3 := HR2.out.belowS hb3
  refine ⟨w2.heap.size, c2, A2, rfl, hs2, Blk.new _ _ _, hr3, fun a e => ?_, HB2.out.trans (hb3.mono hs2)⟩
  obtain ⟨b, off, e2, hlt, _⟩ := HR2.out.2.2.2 (by omega)
  rw [e] at e2
  injection e2 with e2
  rw [e2]
  show b ≠ w2.heap.size
  omega
end Go.Proofs.YtlkpbpecgdphaaaGreatDoor
