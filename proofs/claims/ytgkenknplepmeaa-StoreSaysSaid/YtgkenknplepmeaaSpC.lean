/-
  WALK: store.Open, on a disk that is neither armed nor down.
-/
import Derived.Test.YtgkenknplepmeaaSpA
import Derived.Test.YtgkenknplepmeaaAppm
namespace Go.Proofs.Ytgkenknplepmeaa
open Go.RowKit Go.Sort

theorem open_none (base p B : Nat) (V : Nat → Value) (D : Dk) (w : World) (hd : DkAt w base p B V D) (hdn : D.down = false) (h0 : preB magR (nowB (D.sec 0)) = false) :
    Calls Try.prog 48 #[ptr p] w fun e w' => e = .returned (.tuple #[.pointer none, .iface 96 (.int .i64 4)]) ∧ Below w.heap.size w w' := by
  have HH := Lib.hid (readHead_bad base p B V D w hd hdn hd.n1 h0)
  clear hd
  unfold ptr at *
  go_enter Try.func48, Try.ntmps48
  go_wp2_with fail
  refine HH.out.mono ?_
  rintro e w1 ⟨rfl, hb1⟩
  have HB1 := Lib.hid (hb1.alloc hb1.size (.cells #[.int .i64 0, .int .i64 0, .int .i64 0] tHd))
  clear hb1
  go_wp2
  go_ret2
  exact ⟨rfl, HB1.out⟩
def OpRel (w : World) (base : Nat) (rows0 : List Ch) (es : List (List Ch)) (Ae : Option Addr) (ce pl hb : Nat) (lg hd : Array Value) (v6 v43 : Value) (wr : World) : Prop :=
  ∃ (k : Nat) (A : Option Addr) (c : Nat) (r : List Ch), k ≤ es.length ∧ v43 = .int .i64 k ∧ v6 = .slice A r.length c ∧ KpC wr base A r.length c r ∧ ApplyOf (rows0 ++ (es.take k).flatten) r ∧ KpE wr base Ae es.length ce es ∧ Blk wr pl tLog lg ∧ Blk wr hb tHd hd ∧ Below w.heap.size w wr
def OpDone (w : World) (base p a fi u many : Nat) (rows : List Ch) (e : Ending) (w' : World) : Prop :=
  ∃ ps pl A c, e = .returned (.tuple #[ptr ps, .nilIface]) ∧ Blk w' ps tSo #[ptr p, ptr pl, .int .i64 a, .slice A rows.length c] ∧ Blk w' pl tLog #[ptr p, .int .i64 (44 : Nat), .int .i64 (many : Int), .int .i64 fi, .int .i64 u] ∧ KpC w' base A rows.length c rows ∧ w.heap.size ≤ ps ∧ w.heap.size ≤ pl ∧ Below w.heap.size w w'
theorem ap_len {rows0 r : List Ch} {es : List (List Ch)} (h : ApplyOf (rows0 ++ es.flatten) r) (h0 : rows0.length ≤ 40) (he : es.length ≤ 80) (hf : ∀ e ∈ es, e.length ≤ 40) : r.length ≤ 4000 := by
  have h1 := h.len
  have key : ∀ l : List (List Ch), (∀ e ∈ l, e.length ≤ 40) → l.flatten.length ≤ l.length * 40 := by
    intro l
    induction l with
    | nil => intro _; simp
    | cons e r ih =>
      intro h
      rw [List.flatten_cons, List.length_append, List.length_cons, Nat.succ_mul]
      have := ih fun x hx => h x (by simp [hx])
      have := h e (by simp)
      omega
  have h2 := key es hf
  rw [List.length_append] at h1
  omega

set_option maxRecDepth 100000 in
set_option maxHeartbeats 4000000 in
theorem open_st (base p B a fi u : Nat) (V : Nat → Value) (D : Dk) (rows0 rows : List Ch) (es : List (List Ch)) (w : World) (hd : DkAt w base p B V D) (hg : SGood D a fi u rows0 es) (hap : ApplyOf (rows0 ++ es.flatten) rows) (hfew : tmB rows = false) (hsz : ∀ c ∈ rows, c.key.size ≤ 1000000) (hfi : fi ≤ 100000000000) :
    Calls Try.prog 48 #[ptr p] w (OpDone w base p a fi u (D.n - 44) rows) := by
  have hr0 := rows_few hg.ok0.ck hg.few0
  obtain ⟨z, hz⟩ : ∃ z, (rowsR rows0).size = z := ⟨_, rfl⟩
  have hhd := hg.head
  rw [hz] at hhd
  have hn1 := hg.n1
  have hn2 := hg.n2
  have hbw : base ≤ w.heap.size := Nat.le_trans hd.hp (Nat.le_of_lt hd.ltp)
  have HH := Lib.hid (readHead_good base p B a z fi V D w hd hg.good.down hg.n1 hhd hg.a1 (by omega) hg.f1 (by omega))
  have HD := Lib.hid hd
  have HG := Lib.hid hg
  have HAP := Lib.hid hap
  have HZ := Lib.hid hz
  have HSZ := Lib.hid hsz
  clear hd hg hap hz hhd hsz
  unfold ptr at *
  go_enter Try.func48, Try.ntmps48
  go_wp2_with fail
  refine HH.out.mono ?_
  rintro e w1 ⟨rfl, hb1⟩
  have hb1' : Below w.heap.size w (w1.alloc (.cells #[.int .i64 a, .int .i64 z, .int .i64 fi] tHd)) := hb1.alloc hb1.size _
  have hhd := Blk.new w1 tHd #[.int .i64 a, .int .i64 z, .int .i64 fi]
  have hz1 : w.heap.size ≤ w1.heap.size := hb1.size
  have c0 := hhd.cell 0
  have c1 := hhd.cell 1
  have c2 := hhd.cell 2
  have HRR := Lib.hid (readRows_any base p B a fi V D rows0 (w1.alloc (.cells #[.int .i64 a, .int .i64 z, .int .i64 fi] tHd)) (HD.out.keep (fun _ _ hk => hb1'.block _ hk)) HG.out.good.down HG.out.a1 (by omega) (by have := HZ.out; omega) HG.out.area HG.out.ok0 (by omega))
  rw [HZ.out] at HRR
  unfold PrPost ptr at HRR
  have HB1 := Lib.hid hb1'
  have HHD := Lib.hid hhd
  obtain ⟨hbk, hhbk⟩ : ∃ hbk, w1.heap.size = hbk := ⟨_, rfl⟩
  rw [hhbk] at c0 c1 c2 HHD hz1
  clear hb1 hb1' hhd HH
  go_wp2_with fail
  refine HRR.out.mono ?_
  rintro e w2 ⟨v6, rfl, ho6, hb6⟩
  obtain ⟨A6, k6, rfl, hk6⟩ := KpC.of_own (b0 := base) (l := rows0) ho6
  have hH2 : Blk w2 hbk tHd #[.int .i64 a, .int .i64 z, .int .i64 fi] := (hb6.block _ HHD.out.lt).trans HHD.out
  have HH2 := Lib.hid hH2
  have HB2 := Lib.hid (HB1.out.trans (hb6.mono HB1.out.size))
  have HK2 := Lib.hid hk6
  clear c0 c1 c2 ho6 hb6 hk6 hH2 HRR HHD HB1
  have HLS := Lib.hid (fun W (hW : Below w.heap.size w W) => logSectors_any base p B V D W (HD.out.keep (fun _ _ hk => hW.block _ hk)))
  have HOP := Lib.hid (fun W (hW : Below w.heap.size w W) => open_kp base base p B 44 (D.n - 44) fi V D W (HD.out.keep (fun _ _ hk => hW.block _ hk)) HG.out.good.down (by omega) (by omega) HG.out.f1 (by omega) HG.out.log)
  obtain ⟨m, hm⟩ : ∃ m, D.n - 44 = m := ⟨_, rfl⟩
  have hmi : (D.n : Int) - 44 = (m : Int) := by omega
  rw [hm] at HOP
  rw [hmi] at HLS
  unfold ptr at HLS HOP
  rw [show ((44 : Nat) : Int) = 44 from rfl] at HOP
  go_wp2_with fail
  go_region_held3 (fun w' => w'.cell? ⟨hbk, 2, none⟩ = some (.int .i64 fi))
    (first | exact HH2.out.cell 2 | exact HH3.out.cell 2)
    (first
      | (go_at_call 81; refine (HLS.out _ ?_).mono ?_; exact HB2.out.trans ⟨rfl, rfl, rfl, Nat.le_refl _, fun _ _ => rfl⟩; rintro e wq ⟨rfl, rfl⟩)
      | (go_at_call 41; refine (HOP.out _ ?_).mono ?_; exact HB2.out.trans ⟨rfl, rfl, rfl, Nat.le_refl _, fun _ _ => rfl⟩; rintro e w3 ⟨Ae, ce, rfl, hke, hlg, hb3⟩; have HH3 := Lib.hid (show Blk w3 hbk tHd _ from (hb3.block _ HH2.out.lt).trans HH2.out); have HE3 := Lib.hid hke; have HL3 := Lib.hid hlg; have HB3 := Lib.hid hb3; clear hke hlg hb3))
  have hk3 : ∀ k, k < w2.heap.size → w3.heap[k]? = w2.heap[k]? := fun k hk => HB3.out.block k hk
  have HBW := Lib.hid (HB2.out.trans (show Below w.heap.size w2 w3 from ⟨HB3.out.os, HB3.out.tape, HB3.out.output, HB3.out.size, fun k hk => hk3 k (by have := HB2.out.size; omega)⟩))
  have hf23 : Fr base w2 w3 := ⟨HB3.out.size, fun k hk => hk3 k (by have := HB2.out.size; omega), fun k _ hb => (hk3 k hb.lt).trans hb, fun k _ hb => (hk3 k hb.lt).trans hb⟩
  have HK3 := Lib.hid (HK2.out.keep hf23)
  have hpl : w.heap.size ≤ w2.heap.size := HB2.out.size
  have hL3 : Blk w3 w2.heap.size tLog _ := HL3.out
  have HL4 := Lib.hid hL3
  obtain ⟨pl, hplx⟩ : ∃ pl, w2.heap.size = pl := ⟨_, rfl⟩
  have hel : es.length ≤ 80 := by
    have := rdR_len (f := nowF D 44) (first := fi) (D.n - 44) 0 [] [] 0
    rw [HG.out.log] at this
    simp at this
    omega
  rw [hplx] at hpl HL4
  clear hk3 hf23 HB3 HL3 HH2 HB2 HK2 HLS HOP hL3
  go_wp2_with fail
  rw [hplx]
  clear hplx
  go_loopw [6, 43] (fun v6 v43 wr => OpRel w base rows0 es Ae ce pl hbk #[.pointer (some ⟨p, 0, none⟩), .int .i64 44, .int .i64 m, .int .i64 fi, .int .i64 u] #[.int .i64 a, .int .i64 z, .int .i64 fi] v6 v43 wr) (fun _ i _ => es.length - (intOf i).toNat)
  case atStart => exact ⟨0, A6, k6, rows0, Nat.zero_le _, rfl, rfl, HK3.out, by rw [List.take_zero, List.flatten_nil, List.append_nil]; exact HG.out.ok0.apply, HE3.out, HL4.out, HH3.out, HBW.out⟩
  case round =>
    clear HK3 HE3 HL4 HH3 HBW
    obtain ⟨k, A, c, r, hk, rfl, rfl, hkc, hap, hke, hlg, hhd, hbl⟩ := hrel
    have hrl : r.length ≤ 4000 := ap_len hap hr0.2 (by rw [List.length_take]; omega) (fun e he => HG.out.few e (List.mem_of_mem_take he))
    have HK4 := Lib.hid hkc
    have HA4 := Lib.hid hap
    have HE4 := Lib.hid hke
    have HL4 := Lib.hid hlg
    have HH4 := Lib.hid hhd
    have HB4 := Lib.hid hbl
    have hzw : w.heap.size ≤ wr.heap.size := hbl.size
    clear hkc hap hke hlg hhd hbl
    by_cases hlt : k < es.length
    · obtain ⟨e, he⟩ : ∃ e, es[k]? = some e := ⟨_, List.getElem?_eq_getElem hlt⟩
      obtain ⟨b', off, hAe, hbb, A', n', c', y0, hrd⟩ := HE4.out.rd.at_ he
      subst hAe
      have hel40 := HG.out.few e (List.mem_of_getElem? he)
      have hn' := hrd.1
      have hki : (k : Int) < (es.length : Int) := by omega
      have HAP2 := Lib.hid (apply_any A A' r.length c n' c' r e wr HK4.out.1 hrd (by omega))
      have HE := Lib.hid he
      unfold ApPost at HAP2
      clear he hrd
      go_wp2_with fail
      refine HAP2.out.mono ?_
      rintro e4 w5 ⟨v, out, rfl, ho5, hap5, hb5⟩
      obtain ⟨A5, c5, rfl, hk5⟩ := KpC.of_own (b0 := base) ho5
      have hf5 := Fr.of_below hb5 (Nat.le_trans hbw hzw)
      have HK5 := Lib.hid hk5
      have HA5 := Lib.hid (show ApplyOf (rows0 ++ (es.take (k + 1)).flatten) out from by
        rw [List.take_add_one, HE.out, List.flatten_append, ← List.append_assoc]
        have := HA4.out.step hap5
        simpa using this)
      have HE5 := Lib.hid (HE4.out.keep hf5)
      have HL5 := Lib.hid (show Blk w5 pl tLog _ from (hb5.block _ HL4.out.lt).trans HL4.out)
      have HH5 := Lib.hid (show Blk w5 hbk tHd _ from (hb5.block _ HH4.out.lt).trans HH4.out)
      have HB5 := Lib.hid (HB4.out.trans (hb5.mono hzw))
      clear ho5 hap5 hb5 hk5 hf5 HAP2
      go_wp2_with fail
      go_roundw
      case rel => exact ⟨k + 1, A5, c5, out, by omega, by go_num, rfl, HK5.out, HA5.out, HE5.out, HL5.out, HH5.out, HB5.out⟩
      case measure => simp [intOf]; omega
    · obtain rfl : k = es.length := by omega
      have hrr : r = rows := by
        have := HA4.out
        rw [List.take_length] at this
        exact this.unique HAP.out (fun _ => rfl)
      subst hrr
      have hkk : decide ((es.length : Int) < (es.length : Int)) = false := decide_eq_false (by omega)
      have HTM := Lib.hid (tooMany_any A r.length c r wr HK4.out.1 (by omega) HSZ.out)
      rw [hfew] at HTM
      go_wp2_with fail
      refine HTM.out.mono ?_
      rintro e4 w5 ⟨rfl, hb5⟩
      have hf5 := Fr.of_below hb5 (Nat.le_trans hbw hzw)
      have HK5 := Lib.hid (HK4.out.keep hf5)
      have HL5 := Lib.hid (show Blk w5 pl tLog _ from (hb5.block _ HL4.out.lt).trans HL4.out)
      have hh5 : Blk w5 hbk tHd _ := (hb5.block _ HH4.out.lt).trans HH4.out
      have HB5 := Lib.hid (HB4.out.trans (hb5.mono hzw))
      have c5 := hh5.cell 0
      have hz5 : w.heap.size ≤ w5.heap.size := HB5.out.size
      clear hb5 hf5 HTM hh5
      go_wp2
      go_ret2
      refine ⟨w5.heap.size, pl, A, c, rfl, Blk.new w5 tSo _, by rw [hm]; exact HL5.out.alloc _, ?_, hz5, hpl, HB5.out.alloc hz5 _⟩
      exact HK5.out.keep (Fr.of_below ((Below.refl _ _).alloc (Nat.le_refl _) _) (Nat.le_trans hbw hz5))
end Go.Proofs.Ytgkenknplepmeaa
