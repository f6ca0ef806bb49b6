/-
  WALK: store.readRows of an area that holds the bytes of rows.
-/
import Derived.Test.YtgkenknplepmeaaSrE
import Derived.Lib.AppendStr
import Derived.Lib.Builder
import Derived.Test.YtgkenknplepmeaaSrB
import Derived.Test.YtgkenknplepmeaaShelf
import Derived.Deep.RegionHeld3
namespace Go.Proofs.Ytgkenknplepmeaa
open Go.RowKit Go.Sort

abbrev tBd : TypeId := 158
abbrev tBy : TypeId := 5
theorem bd_info : ∃ j, Try.prog.info? tBd = some j ∧ j.size = 2 := by
  have h : (Try.prog.info? tBd).map (fun i => i.size) = some 2 := by kernel_rfl
  cases e : Try.prog.info? tBd with
  | none => rw [e] at h; cases h
  | some i =>
    rw [e] at h
    simp only [Option.map_some, Option.some.injEq] at h
    exact ⟨i, rfl, h⟩
set_option maxHeartbeats 1000000 in
set_option maxRecDepth 100000 in
theorem bdCheck_used (b : Nat) (w : World) (h0 : w.cell? ⟨b, 0, none⟩ = some (ptr b)) : Calls Try.prog 113 #[ptr b] w fun e w' => e = .returned (.tuple #[]) ∧ w' = w := by
  obtain ⟨j, hj, _⟩ := bd_info
  have hne := Lib.run_neq_ptr_same (P := Try.prog) w ⟨b, 0, none⟩ Try.underlying156 hj
  unfold ptr at *
  go_enter Try.func113, Try.ntmps113
  go_wp2
  go_end0
  exact ⟨rfl, rfl⟩
set_option maxHeartbeats 1000000 in
set_option maxRecDepth 100000 in
theorem bdCheck_fresh (b : Nat) (w : World) (h0 : w.cell? ⟨b, 0, none⟩ = some (.pointer none)) (hsh : w.shape? b = some (tBd, 2)) (hfz : w.frozen? ⟨b, 0, none⟩ = false) : Calls Try.prog 113 #[ptr b] w fun e w' => e = .returned (.tuple #[]) ∧ w' = w.setCell ⟨b, 0, none⟩ (ptr b) := by
  obtain ⟨j, hj, hjs⟩ := bd_info
  have t1 := Lib.run_to_unsafe (P := Try.prog) w ⟨b, 0, none⟩ Try.underlying156 Try.underlying174 hj (by rw [hjs]; decide) hsh (by show 0 < 2; omega)
  have t3 := Lib.run_from_unsafe (P := Try.prog) w ⟨b, 0, none⟩ Try.underlying174 Try.underlying156 hj hsh (by kernel_rfl)
  have t2 : (callFunc 118 #[ptr b]).run Try.prog w = .ok (.value (ptr b)) w := by
    rw [run_callFunc_extern Try.func118 (by kernel_rfl) (by kernel_rfl) (by kernel_rfl) (e := Extern.AbiNoEscape.same) (by kernel_rfl), Lib.run_noEscape]
    rfl
  unfold ptr at *
  go_enter Try.func113, Try.ntmps113
  go_wp2
  go_end0
  exact ⟨rfl, rfl⟩
/-- Behind it the builder is used. -/
theorem bdCheck_any (B b : Nat) (bs : List Value) (w : World) (h : Lib.IsBuilder tBd tBy B b bs w) :
    Calls Try.prog 113 #[ptr b] w fun e w' => e = .returned (.tuple #[]) ∧ Lib.BuilderAt tBd tBy B b (ptr b) bs w' ∧ Below B w w' := by
  rcases h with h | h
  · refine (bdCheck_fresh b w h.cell0 h.shape h.frozen0).mono fun e w' hh => ?_
    obtain ⟨he, hw⟩ := hh
    rw [hw]
    exact ⟨he, h.used _, (Below.refl B w).setCell (p := ⟨b, 0, none⟩) h.1 _⟩
  · refine (bdCheck_used b w h.cell0).mono fun e w' hh => ?_
    obtain ⟨he, hw⟩ := hh
    rw [hw]
    exact ⟨he, h, Below.refl _ _⟩
theorem strCells_app (a b : ByteArray) : Lib.strCells (a ++ b) = Lib.strCells a ++ Lib.strCells b := by simp [Lib.strCells]
set_option maxRecDepth 100000 in
set_option maxHeartbeats 1600000 in
theorem bdWrite_any (B b : Nat) (t s : ByteArray) (w : World) (h : Lib.IsBuilder tBd tBy B b (Lib.strCells t) w) (hn : t.size + s.size ≤ 1000000000) (hB : B ≤ w.heap.size) :
    Calls Try.prog 102 #[ptr b, .string s] w fun e w' => e = .returned (.tuple #[.int .i64 s.size, .nilIface]) ∧ Lib.BuilderAt tBd tBy B b (ptr b) (Lib.strCells (t ++ s)) w' ∧ Below B w w' := by
  have HCC := Lib.hid (bdCheck_any B b (Lib.strCells t) w h)
  clear h
  unfold ptr at *
  go_enter Try.func102, Try.ntmps102
  go_wp2_with fail
  refine HCC.out.mono ?_
  rintro e w1 ⟨rfl, hba, hb1⟩
  obtain ⟨hBb, v, hk, ho, hne⟩ := hba
  have hbk : Blk w1 b tBd #[.pointer (some ⟨b, 0, none⟩), v] := hk
  have c1 := hbk.cell 1
  have HB := Lib.hid hbk
  have HO : Hid (w1.ownsRow B tBy 1 v t.size (Lib.strCells t)) := by
    have h := ho
    rw [Lib.strCells_length] at h
    exact h
  have HN := Lib.hid hne
  have HB1 := Lib.hid hb1
  have hB1 : B ≤ w1.heap.size := Nat.le_trans hB hb1.size
  clear hk ho hne hbk hb1 HCC
  go_wp2_with (refine Lib.wpList_append_own_string _ rfl (.tmp 12) (.tmp 13) 107 9 rfl B tBy Try.t5 Try.underlying107 Try.underlying9 (by kernel_rfl) (by kernel_rfl) (by kernel_rfl) (by kernel_rfl) v t.size (Lib.strCells t) rfl HO.out s rfl (by unfold maxLen; omega) (by omega) hB1 ?_; intro v2 w2 ho2 hg2 _; obtain ⟨A2, k2, rfl⟩ := own_shape ho2; have HO2 := Lib.hid ho2; have HG2 := Lib.hid hg2; have HB2 := Lib.hid (HB.out.grown hg2 HN.out); have c2 : w2.cell? ⟨b, 1, none⟩ = some v := HB2.out.cell 1; have f2 := HB2.out.free 1; clear ho2 hg2)
  go_ret2
  have hne2 := own_block_ne HO2.out HB2.out (by decide)
  have hlen : (Lib.strCells (t ++ s)).length = t.size + s.size := by rw [Lib.strCells_length, ByteArray.size_append]
  refine ⟨rfl, ⟨hBb, .slice A2 (t.size + s.size) k2, HB2.out.set 1 _, ?_, hne2⟩, (HB1.out.trans ((Below.refl B w1).grown HG2.out hB1 (fun g' hg' => (HO.out.lt g' hg').1))).setCell (p := ⟨b, 1, none⟩) hBb _⟩
  rw [hlen, strCells_app]
  exact ownsRow_block HO2.out fun g hg => Below.heap_setCell _ _ _ _ (fun e => hne2 (by rw [hg]; exact congrArg some e))
end Go.Proofs.Ytgkenknplepmeaa
namespace Go.Proofs.Ytgkenknplepmeaa
open Go.RowKit Go.Sort

theorem quiet_eqE {P : Program} {f : FuncId} {args : Array Value} {w : World} {n : Nat} {v : Value} (h : Calls P f args (w.drewN n) fun e w' => e = .returned v ∧ w' = w.drewN n) : Calls P f args (w.drewN n) fun e w'' => e = .returned v ∧ ∃ m, w'' = w.drewN m :=
  h.mono fun _ _ ⟨he, hm⟩ => ⟨he, n, hm⟩
def RrRel (w : World) (f : Nat → ByteArray) (at0 z : Nat) (cs : Array Value) (v7 : Value) (wr : World) : Prop :=
  ∃ k : Nat, v7 = .int .i64 ((at0 + k : Nat) : Int) ∧ k * 340 < z + 340 ∧ Lib.IsBuilder tBd tBy (w.heap.size + 1) (w.heap.size + 1) (Lib.strCells (glueR f k)) wr ∧ Blk wr w.heap.size tHd cs ∧ Below w.heap.size w wr ∧ w.heap.size + 2 ≤ wr.heap.size
theorem isb_below {T e : TypeId} {B b : Nat} {bs : List Value} {w w' : World} (h : Lib.IsBuilder T e B b bs w) (hb : Below w.heap.size w w') : Lib.IsBuilder T e B b bs w' := by
  have key : ∀ {q : Value}, Lib.BuilderAt T e B b q bs w → Lib.BuilderAt T e B b q bs w' := fun {q} h => by
    have hlt := h.lt
    obtain ⟨hB, v, hk, ho, hne⟩ := h
    exact ⟨hB, v, (hb.block b hlt).trans hk, ownsRow_block ho (fun g hg => hb.block g (ho.lt g hg).2), hne⟩
  exact h.imp key key

set_option maxRecDepth 100000 in
set_option maxHeartbeats 4000000 in
theorem readRows_any (base p B a fi : Nat) (V : Nat → Value) (D : Dk) (rows : List Ch) (w : World) (hd : DkAt w base p B V D) (hdn : D.down = false) (ha : a ≤ 1) (hDn : 44 ≤ D.n) (hS : (rowsR rows).size ≤ 7140)
    (hA : AreaOf (fun i => nowB (D.sec (1 + a * 21 + i))) (rowsR rows)) (hok : RowsOk rows) (hn : rows.length ≤ 1000) :
    Calls Try.prog 80 #[ptr p, .agg #[.int .i64 a, .int .i64 ((rowsR rows).size : Int), .int .i64 fi]] w (PrPost w rows) := by
  obtain ⟨f, hf⟩ : ∃ f : Nat → ByteArray, (fun i => nowB (D.sec (1 + a * 21 + i))) = f := ⟨_, rfl⟩
  rw [hf] at hA
  have HAT := Lib.hid (fun W => areaAt_any a W ha)
  obtain ⟨at0, hat⟩ : ∃ at0, 1 + a * 21 = at0 := ⟨_, rfl⟩
  rw [hat] at HAT
  have hat2 : at0 ≤ 22 := by omega
  obtain ⟨z, hz⟩ : ∃ z, (rowsR rows).size = z := ⟨_, rfl⟩
  have hf2 : ∀ k, f k = nowB (D.sec (at0 + k)) := fun k => by rw [← hf, ← hat]
  have HA := Lib.hid hA
  have HF := Lib.hid hf2
  have HD := Lib.hid hd
  have HZ := Lib.hid hz
  have hbw : base ≤ w.heap.size := Nat.le_trans hd.hp (Nat.le_of_lt hd.ltp)
  have hzs : z ≤ 7140 := by omega
  rw [hz]
  clear hA hf hf2 hd hz
  have hb0 : Below w.heap.size w ((w.alloc (.cells #[.int .i64 a, .int .i64 z, .int .i64 fi] tHd)).alloc (.cells #[.pointer none, .slice none 0 0] tBd)) := ((Below.refl _ w).alloc (Nat.le_refl _) _).alloc (by simp) _
  have hib : Lib.IsBuilder tBd tBy (w.heap.size + 1) (w.heap.size + 1) [] ((w.alloc (.cells #[.int .i64 a, .int .i64 z, .int .i64 fi] tHd)).alloc (.cells #[.pointer none, .slice none 0 0] tBd)) := by
    have := Lib.fresh_isBuilder tBd tBy (w.alloc (.cells #[.int .i64 a, .int .i64 z, .int .i64 fi] tHd))
    simp only [World.size_alloc] at this
    exact this
  have hhd := (Blk.new w tHd #[.int .i64 a, .int .i64 z, .int .i64 fi]).alloc (.cells #[.pointer none, .slice none 0 0] tBd)
  have HB0 := Lib.hid hb0
  have HIB := Lib.hid hib
  have HHD := Lib.hid hhd
  have hz0 : w.heap.size + 2 ≤ ((w.alloc (.cells #[.int .i64 a, .int .i64 z, .int .i64 fi] tHd)).alloc (.cells #[.pointer none, .slice none 0 0] tBd)).heap.size := by simp
  have HZ0 := Lib.hid hz0
  have c0 := hhd.cell 0
  clear hb0 hib hhd hz0
  go_enter Try.func80, Try.ntmps80
  go_wp2_with fail
  refine (HAT.out _).mono ?_
  rintro e w1 ⟨rfl, rfl⟩
  go_wp2_with fail
  generalize hw0 : (w.alloc (.cells #[.int .i64 a, .int .i64 z, .int .i64 fi] tHd)).alloc (.cells #[.pointer none, .slice none 0 0] tBd) = w0 at *
  clear hw0 c0
  go_loopw [7] (fun v7 wr => RrRel w f at0 z #[.int .i64 a, .int .i64 z, .int .i64 fi] v7 wr) (fun v _ => z + 340 - ((intOf v).toNat - at0) * 340)
  case atStart => exact ⟨0, rfl, by omega, HIB.out, HHD.out, HB0.out, HZ0.out⟩
  case round =>
    clear HIB HHD HB0 HZ0
    obtain ⟨k, rfl, hk, hib, hhd, hbl, hsz⟩ := hrel
    have hd1 : DkAt wr base p B V D := HD.out.keep (fun i _ hi => hbl.block i hi)
    have c1 := hhd.cell 1
    have hfs : ∀ i, i < k → (f i).size = 340 := fun i hi => by rw [HF.out i]; exact nowB_size hd1 (by omega)
    have hgl := glueR_size k hfs
    have hib2 := hib
    have hlen : (Lib.strCells (glueR f k)).length = k * 340 := by rw [Lib.strCells_length, hgl]
    have HLN := Lib.hid (fun m : Nat => quiet_eqE (n := m) (Try.Builder_Len (w.heap.size + 1) (w.heap.size + 1) _ (wr.drewN m) (show Lib.IsBuilder tBd tBy _ _ _ (wr.drewN m) from hib)))
    rw [hlen] at HLN
    have HIB := Lib.hid hib2
    have HHD := Lib.hid hhd
    have HB1 := Lib.hid hbl
    have HSZ := Lib.hid hsz
    have HD1 := Lib.hid hd1
    have HGL := Lib.hid hgl
    clear hib hib2 hhd hbl hsz hd1 hfs hlen hgl
    obtain ⟨q, hq⟩ : ∃ q, k * 340 = q := ⟨_, rfl⟩
    rw [hq] at hk HLN
    obtain ⟨g, hg⟩ : ∃ g, at0 + k = g := ⟨_, rfl⟩
    rw [hg]
    have HG := Lib.hid hg
    by_cases hlt : q < z
    · have hqz : (q : Int) < (z : Int) := by omega
      have HRD := Lib.hid (fun m : Nat => read_any base p B V D (g : Int) (wr.drewN m) (HD1.out.keep (fun _ _ _ => rfl)))
      rw [readR_up hdn (show g < D.n by omega), show erV 0 = .nilIface from rfl, ← hg, ← HF.out k, hg] at HRD
      have HFS := Lib.hid (show (f k).size = 340 by rw [HF.out k]; exact nowB_size HD1.out (by omega))
      go_wp2_with fail
      go_quiet (first | (go_at_call 101; refine HLN.out _))
      go_wp2_with fail
      refine (HRD.out _).mono ?_
      rintro e w3 ⟨rfl, hb3⟩
      have hb3' : Below wr.heap.size wr w3 := ((Below.refl wr.heap.size wr).trans (show Below wr.heap.size wr (wr.drewN nq) from ⟨rfl, rfl, rfl, Nat.le_refl _, fun _ _ => rfl⟩)).trans hb3
      have hib3 := isb_below HIB.out hb3'
      have HW := Lib.hid (bdWrite_any (w.heap.size + 1) (w.heap.size + 1) (glueR f k) (f k) w3 hib3 (by rw [HGL.out, HFS.out]; omega) (by have := hb3'.size; have := HSZ.out; omega))
      have HH3 := Lib.hid (show Blk w3 w.heap.size tHd _ from (hb3'.block _ HHD.out.lt).trans HHD.out)
      have HB3 := Lib.hid (HB1.out.trans (hb3'.mono HB1.out.size))
      have HZ3 := Lib.hid (Nat.le_trans HSZ.out hb3'.size)
      clear hb3 hb3' hib3 HRD HLN
      go_wp2_with fail
      refine HW.out.mono ?_
      rintro e w4 ⟨rfl, hba, hb4⟩
      have HI4 := Lib.hid (show Lib.IsBuilder tBd tBy (w.heap.size + 1) (w.heap.size + 1) (Lib.strCells (glueR f (k + 1))) w4 from .inr hba)
      have HH4 := Lib.hid (show Blk w4 w.heap.size tHd _ from (hb4.block _ (by omega)).trans HH3.out)
      have HB4 := Lib.hid (HB3.out.trans (hb4.mono (by omega)))
      have HZ4 := Lib.hid (Nat.le_trans HZ3.out hb4.size)
      clear hba hb4 HW
      go_wp2_with fail
      have hgk : at0 + (k + 1) = g + 1 := by have := HG.out; omega
      refine ⟨⟨k + 1, by rw [hgk]; rfl, by omega, HI4.out, HH4.out, HB4.out, HZ4.out⟩, ?_⟩
      simp [intOf]
      omega
    · have hqz : decide ((q : Int) < (z : Int)) = false := decide_eq_false (by omega)
      have hcnt : k = (z + 339) / 340 := by omega
      have hcut : (glueR f k).extract 0 z = rowsR rows := by
        have := glue_cut HA.out
        rw [HZ.out, ← hcnt] at this
        exact this
      have hzg : z ≤ (glueR f k).size := by rw [HGL.out]; omega
      have HCUT := Lib.hid hcut
      have HSTR := Lib.hid (fun (W : World) (h : Lib.IsBuilder tBd tBy (w.heap.size + 1) (w.heap.size + 1) (Lib.strCells (glueR f k)) W) (hs : w.heap.size + 1 ≤ W.heap.size) => Try.Builder_String_any (w.heap.size + 1) (w.heap.size + 1) (glueR f k).data.toList W h hs)
      have HPR := Lib.hid (fun W => parseRows_any rows W hok hn)
      have hgs : (⟨(glueR f k).data.toList.toArray⟩ : ByteArray) = glueR f k := by simp
      rw [hgs] at HSTR
      rw [← hcut] at HPR
      clear hcut hgs hcnt
      generalize glueR f k = G at *
      go_wp2_with fail
      go_quiet (first | (go_at_call 101; refine HLN.out _))
      have HZG := Lib.hid hzg
      have hzi : (z : Int) ≤ (G.size : Int) := by omega
      clear hzg
      have HST2 := Lib.hid (show (∀ W, Below wr.heap.size wr W → Calls Try.prog 104 #[.pointer (some ⟨w.heap.size + 1, 0, none⟩)] W fun e w' => e = .returned (.string G) ∧ Blk w' w.heap.size tHd #[.int .i64 a, .int .i64 z, .int .i64 fi] ∧ Below w.heap.size w w') from fun W hW => (HSTR.out W (isb_below HIB.out hW) (by have := HSZ.out; have := hW.size; omega)).mono fun e w' ⟨he, hb⟩ => ⟨he, (hb.block _ (by omega)).trans ((hW.block _ HHD.out.lt).trans HHD.out), HB1.out.trans ((hW.mono HB1.out.size).trans (hb.mono (by omega)))⟩)
      clear HSTR
      go_wp2_with fail
      go_region_held3 (fun w' => w'.cell? ⟨w.heap.size, 1, none⟩ = some (.int .i64 z))
        (first | exact HHD.out.cell 1 | exact HH5.out.cell 1 | exact HH6.out.cell 1)
        (first
          | (go_at_call 103; refine (HPR.out _).mono ?_; rintro e w6 ⟨v6, rfl, ho6, hb6⟩; have hh6 : Blk w6 w.heap.size tHd #[.int .i64 a, .int .i64 z, .int .i64 fi] := (hb6.block _ HH5.out.lt).trans HH5.out; have HH6 := Lib.hid hh6; have HO6 := Lib.hid (own_mono ho6 HB5.out.size); have HB6 := Lib.hid (HB5.out.trans (hb6.mono HB5.out.size)); clear ho6 hb6 hh6)
          | (go_at_call 104; refine (HST2.out (wr.drewN (nq + 1)) (show Below wr.heap.size wr (wr.drewN (nq + 1)) from ⟨rfl, rfl, rfl, Nat.le_refl _, fun _ _ => rfl⟩)).mono ?_; rintro e w5 ⟨rfl, hh5, hb5⟩; have HH5 := Lib.hid hh5; have HB5 := Lib.hid hb5; clear hb5 hh5))
      all_goals go_wp2
      all_goals go_ret2
      all_goals exact ⟨_, rfl, HO6.out, HB6.out⟩
end Go.Proofs.Ytgkenknplepmeaa
