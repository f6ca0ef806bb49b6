/-
  WALK: hammerpondtop.TopLog.
-/
import Derived.Test.YtgkenknplepmeaaTlA
import Derived.Deep.DeepCutAuto
namespace Go.Proofs.Ytgkenknplepmeaa
open Go.RowKit Go.Sort

theorem wpList_append_rdG {P : Program} (w : World) {ops : Array Oper} {rest : List Oper} {o : Oper} {a : Act} {Q : Exit → Act → World → Prop} (hgd : Region.wanted o (yielded ops a.tmps) = true) (s x : Operand) (t : TypeId)
    (ho : o.op = .call { callee := .builtin .append, args := #[s, x], argTypes := #[t, t] })
    (base : Nat) (e : TypeId) (i : TypeInfo) (z : Value) (size bytes : Nat) (ht : P.underlying t = some (.slice e)) (hi : P.info? e = some i) (hz : i.zero = some z)
    (hsize : i.size = size) (hby : i.bytes = bytes) (hzs : z.cells.size = size) (hsz : 0 < size)
    (v : Value) (n : Nat) (ys : List Value) (hs : a.eval s = v) (hown : w.ownsRow base e size v n ys)
    (A : Option Addr) (m c : Nat) (xs : List Value) (hx : a.eval x = .slice A m c) (hr : RdX w size A m xs)
    (h63 : n + m ≤ maxLen) (hbytes : (n + m) * bytes ≤ 140737488355328) (hbase : base ≤ w.heap.size)
    (h : ∀ v' w', w'.ownsRow base e size v' (n + m) (ys ++ xs) → w.grownBy w' v.ownBlock → (v'.ownBlock = v.ownBlock ∨ v'.ownBlock = some w.heap.size) → wpList P ops Q rest (a.put o.dst v') w') : wpList P ops Q (o :: rest) a w :=
  wpList_step fun _ hK => by
    rw [if_pos hgd]
    exact wp_append_rd w s x t ho base e i z size bytes ht hi hz hsize hby hzs hsz v n ys hs hown A m c xs hx hr h63 hbytes hbase fun v' w' h2 h3 h4 => hK _ _ (h v' w' h2 h3 h4)
structure TlSt (w0 w : World) (pl u : Nat) (D : Dk) (want : List (List Ch)) : Prop where
  bel : Below w0.heap.size w0 w
  dk : ∃ V, DkAt w w0.heap.size (w0.heap.size + 1) w0.heap.size V D
  log : Blk w pl tLog #[ptr (w0.heap.size + 1), .int .i64 (1 : Nat), .int .i64 (59 : Nat), .int .i64 (5 : Nat), .int .i64 u]
  hpl : w0.heap.size ≤ pl
  flat : Flat D
  dn : D.n = 60
  rd : rdR (nowF D 1) 5 59 0 [] [] 0 = (want, u)
theorem TlSt.below {w0 w w' : World} {pl u : Nat} {D : Dk} {want : List (List Ch)} (h : TlSt w0 w pl u D want) (hb : Below w.heap.size w w') : TlSt w0 w' pl u D want := by
  obtain ⟨V, hd⟩ := h.dk
  exact ⟨h.bel.trans (hb.mono h.bel.size), ⟨V, hd.keep fun _ _ hk => hb.block _ hk⟩, (hb.block pl h.log.lt).trans h.log, h.hpl, h.flat, h.dn, h.rd⟩
def T1Rel (w0 : World) (pl m : Nat) (v11 v13 : Value) (wr : World) : Prop := ∃ (k u : Nat) (want : List (List Ch)) (D : Dk) (A : Option Addr) (c : Nat), k ≤ m ∧ v11 = .slice A want.length c ∧ v13 = .int .i64 k ∧ want.length ≤ k ∧ TlSt w0 wr pl u D want ∧ KpE wr w0.heap.size A want.length c want
theorem ck_fz : ckR ⟨⟨#[102, 47, 122]⟩, ⟨#[122]⟩, false⟩ = 0 := by
  unfold ckR keyB preB
  simp only [ByteArray.toList_eq]
  decide +kernel
def TlPost (w : World) (e : Ending) (w' : World) : Prop := e = .returned (.bool true) ∧ Below w.heap.size w w'
set_option maxHeartbeats 8000000 in
set_option maxRecDepth 100000 in
theorem topLog_any (A0 : Option Addr) (n0 c0 : Nat) (fuse : Int) (keep : Nat) (ls : List (List Ch)) (w : World) (h0 : RdE w w.heap.size A0 n0 c0 ls) (hfu : -9223372036854775808 ≤ fuse ∧ fuse ≤ 9223372036854775807) (hkp : keep < 2 ^ 64) :
    Calls Try.prog 9 #[.slice A0 n0 c0, .int .i64 fuse, .int .u64 keep] w (TlPost w) := by
  have HR0 := Lib.hid h0
  have HL0 := Lib.hid h0.1
  have z01 := h0.2.1
  have z02 := h0.2.2.1
  unfold maxLen at z02
  obtain ⟨si, hsi, hsz, hss, hsb⟩ := slice_info
  have SI := Lib.hid hsi
  have SZ := Lib.hid hsz
  have SS := Lib.hid hss
  have SB := Lib.hid hsb
  clear hsi hsz hss hsb h0
  have HN := Lib.hid (new_good 60 w (by omega) (by omega))
  rw [show ((60 : Nat) : Int) = 60 from rfl] at HN
  unfold ptr at HN
  go_enter Try.func9, Try.ntmps9
  go_wp2_with fail
  refine HN.out.mono ?_
  rintro e w1 ⟨rfl, hd1, hb1⟩
  have HD1 := Lib.hid hd1
  have HB1 := Lib.hid hb1
  have HO := Lib.hid (open_kp w.heap.size w.heap.size (w.heap.size + 1) w.heap.size 1 59 5 _ (newD 60) w1 hd1 rfl (by show 1 + 59 ≤ 60; omega) (by omega) (by omega) (by omega) (new_read 60 1 5 59))
  rw [show ((1 : Nat) : Int) = 1 from rfl, show ((59 : Nat) : Int) = 59 from rfl, show ((5 : Nat) : Int) = 5 from rfl] at HO
  unfold ptr at HO
  clear hd1 hb1 HN
  go_wp2_with fail
  refine HO.out.mono ?_
  rintro e w2 ⟨A2, c2, rfl, -, hl2, hb2⟩
  have HD2 := Lib.hid (HD1.out.keep fun _ _ hk => hb2.block _ hk)
  have HB2 := Lib.hid (HB1.out.trans (hb2.mono HB1.out.size))
  have HL2 := Lib.hid hl2
  have hw1 : w.heap.size + 1 < w1.heap.size := HD1.out.ltp
  obtain ⟨pl, hpl⟩ : ∃ pl, pl = w1.heap.size := ⟨_, rfl⟩
  rw [← hpl] at HL2 hw1
  rw [← hpl]
  have HRM := Lib.hid (room_any pl (w.heap.size + 1) 1 59 5 0 w2 HL2.out (by omega) (by omega))
  rw [show ((59 : Nat) : Int) - ((0 : Nat) : Int) = 59 from rfl] at HRM
  unfold ptr at HRM
  clear hl2 hb2 HO HD1 HB1 hpl
  go_wp2_with fail
  refine HRM.out.mono ?_
  rintro e w3 ⟨rfl, q, rfl⟩
  have HD3 : Hid (DkAt (w2.drewN q) w.heap.size (w.heap.size + 1) w.heap.size _ (newD 60)) := HD2.out.keep fun _ _ _ => rfl
  have HL3 : Hid (Blk (w2.drewN q) pl tLog #[.pointer (some ⟨w.heap.size + 1, 0, none⟩), .int .i64 1, .int .i64 59, .int .i64 5, .int .i64 ((0 : Nat) : Int)]) := HL2.out
  have HB3 := Lib.hid (below_drewN HB2.out q)
  clear HD2 HL2 HB2 HRM
  generalize w2.drewN q = w3 at *
  have HLT := Lib.hid (lightE_any A0 n0 c0 ls 8 w.heap.size w3 (by
    have h := HR0.out
    refine ⟨h.1, h.2.1, h.2.2.1, fun hn => ?_⟩
    obtain ⟨b, off, e, hlt, hc⟩ := h.2.2.2 hn
    refine ⟨b, off, e, hlt, fun i x hi => ?_⟩
    obtain ⟨A', n', c', h1, h2⟩ := hc i x hi
    exact ⟨A', n', c', (HB3.out.cell (p := ⟨b, _, none⟩) hlt).trans h1, h2.keep fun _ hp => HB3.out.cell hp⟩) (by omega))
  rw [show ((8 : Nat) : Int) = 8 from rfl] at HLT
  unfold LePost at HLT
  go_wp2_with fail
  refine HLT.out.mono ?_
  rintro e w4 ⟨b, rfl, hlit, rfl⟩
  cases b with
  | false =>
    clear hlit
    go_wp2
    go_ret
    exact ⟨rfl, HB3.out⟩
  | true =>
    have HLIT := Lib.hid (hlit rfl)
    have hn8 : n0 ≤ 8 := by have := HLIT.out.1; have := HL0.out; omega
    clear hlit HLT
    obtain ⟨fu, hfu'⟩ : ∃ fu, fu = min (max fuse (-1)) 200 := ⟨_, rfl⟩
    have hfz : min (max fuse (-1)) 200 = fu := hfu'.symm
    have hfb : -1 ≤ fu ∧ fu ≤ 200 := by omega
    have HAR := Lib.hid (arm_any w.heap.size (w.heap.size + 1) w.heap.size _ (newD 60) fu w3 HD3.out)
    unfold ptr at HAR
    clear hfu' HD3
    go_wp2_with fail
    refine HAR.out.mono ?_
    rintro e w4 ⟨rfl, hd4, hb4, ht4⟩
    have HST : Hid (T1Rel w pl n0 (.slice none 0 0) (.int .i64 0) w4) := ⟨0, 0, [], _, none, 0, Nat.zero_le _, rfl, rfl, Nat.le_refl _, ⟨HB3.out.trans hb4, ⟨_, hd4⟩, ht4 pl tLog _ HL3.out (by decide) (by decide) (by decide), by omega, flat_arm 60 rfl fu hfb, rfl, new_read 60 1 5 59⟩, KpE.nil _ _⟩
    clear hd4 hb4 ht4 HAR HB3 HL3 hfz hfb
    go_wp2
    go_loopw [11, 12, 13, 14] (fun v11 _ v13 _ wx => T1Rel w pl n0 v11 v13 wx) (fun _ _ v13 _ _ => n0 - (intOf v13).toNat)
    case atStart => exact HST.out
    case round =>
      clear HST
      obtain ⟨k, u, want, D, Aw, cw, hk, rfl, rfl, hwl, hst, hkw⟩ := hrel
      have HST := Lib.hid hst
      have HKW := Lib.hid hkw
      have hu : u ≤ 59 := (rdR_end _ _ _ _ hst.rd (fun _ _ => rfl)).1
      clear hst hkw
      by_cases hlt : k < n0
      · have kz : (k : Int) < (n0 : Int) := by omega
        obtain ⟨x, hx⟩ : ∃ x, ls[k]? = some x := ⟨_, List.getElem?_eq_getElem (by rw [HL0.out]; exact hlt)⟩
        obtain ⟨b', off, hA0, hbb, Ax, nx, cx, y0', hrx⟩ := HR0.out.at_ hx
        subst hA0
        have y0 : wr.cell? ⟨b', off + k, none⟩ = some (.slice Ax nx cx) := (HST.out.bel.cell (p := ⟨b', _, none⟩) hbb).trans y0'
        have HRX := Lib.hid (hrx.below HST.out.bel)
        have HLX := Lib.hid (HLIT.out.2 x (List.mem_of_getElem? hx))
        have hxn : nx ≤ 14 := by have := HLX.out.1; have := hrx.1; omega
        have hzr : w.heap.size ≤ wr.heap.size := HST.out.bel.size
        have HAD : Hid (Calls Try.prog 46 #[ptr pl, .slice Ax nx cx] wr (LaPost wr w.heap.size (w.heap.size + 1) w.heap.size pl D 1 59 5 u x)) := by
          obtain ⟨V, hd⟩ := HST.out.dk
          exact logAdd_any pl w.heap.size (w.heap.size + 1) w.heap.size 1 59 5 u Ax nx cx x V D wr HST.out.log hd (HRX.out.more hzr) HLX.out.2 (by omega) (by rw [HST.out.dn]; omega) (by omega) hu (HST.out.flat.wok 1 (by omega)) HST.out.hpl
        unfold LaPost ptr at HAD
        clear hx hrx y0'
        go_wp2_with fail
        refine HAD.out.mono ?_
        rintro e w8 ⟨er, D', u', rfl, hla, hd8, hl8, hb8, ht8⟩
        have HFR := Lib.hid (Fr.of_tyx ht8 hb8 HST.out.log)
        have HBL8 := Lib.hid (HST.out.bel.trans hb8)
        have HD8 := Lib.hid hd8
        have HL8 := Lib.hid hl8
        have HANY := Lib.hid (hla.any HST.out.flat (by rw [HST.out.dn]; omega) HST.out.rd)
        have y8 : w8.cell? ⟨b', off + k, none⟩ = some (.slice Ax nx cx) := (hb8.cell (p := ⟨b', _, none⟩) hbb).trans y0
        have HKC : Hid (KpC w8 w.heap.size Ax x.length cx x) := by
          have h := (KpC.low HRX.out hzr).keep HFR.out
          rw [← HRX.out.1] at h
          exact h
        have HLEN := Lib.hid HRX.out.1
        obtain ⟨vs, hrx, hvs⟩ := (HKW.out.keep HFR.out).x
        have HVS := Lib.hid hvs
        have HVL : Hid (vs.length = want.length) := by have := hrx.1; show _ = _; omega
        have hz8 : w.heap.size ≤ w8.heap.size := HBL8.out.size
        have hbb8 : b' < w8.heap.size := by omega
        obtain ⟨E, hE⟩ : ∃ E, E = erV er := ⟨_, rfl⟩
        rw [← hE]
        have HE := Lib.hid hE
        clear hd8 hl8 hb8 ht8 hla hvs hE HAD y0
        go_upto_region 16 with fail
        go_cut [12] (fun v12 wx => ∃ (A6 : Option Addr) (c6 : Nat), v12 = .slice A6 (want.length + 1) c6 ∧ KpE wx w.heap.size A6 (want ++ [x]).length c6 (want ++ [x]) ∧ Below w8.heap.size w8 wx)
        case first =>
          have HK1 := Lib.hid (show Below w8.heap.size w8 w8.drew from (Below.refl _ _).drew)
          have HK2 := Lib.hid (show Below w8.heap.size w8 ((w8.alloc (.cells #[.slice Ax nx cx] tSl)).drew) from ((Below.refl _ _).alloc (Nat.le_refl _) _).drew)
          have q5 : w8.drew.cell? ⟨b', off + k, none⟩ = some (.slice Ax nx cx) := y8
          have HXR := Lib.hid (show RdX w8.drew 1 Aw want.length vs from hrx)
          have HXR2 := Lib.hid (show RdX ((w8.alloc (.cells #[.slice Ax nx cx] tSl)).drew) 1 Aw want.length vs from hrx.alloc _)
          have HXN2 := Lib.hid (show RdX ((w8.alloc (.cells #[.slice Ax nx cx] tSl)).drew) 1 (some ⟨w8.heap.size, 0, none⟩) 1 [.slice Ax nx cx] from RdX.new w8 1 #[.slice Ax nx cx] tSl rfl (by simp [Value.oneCell']))
          clear hrx
          go_region_law
            (first
              | (refine step_append_rd _ (by rfl) (.const (.slice none 0 0)) (.tmp 72) _ (by rfl) w8.heap.size tSl si _ 1 24 Try.underlying69 SI.out SZ.out SS.out SB.out rfl (by decide) (.slice none 0 0) 0 [] (by rfl) (World.ownsRow_nil w8.drew _ _ _) Aw want.length cw vs (by rfl) HXR.out (by unfold maxLen; omega) (by omega) HK1.out.size ?_; intro v5 wa own5 g5 loc5; have HB5 := Lib.hid (HK1.out.grown g5 HK1.out.size (fun k hk => by cases hk)); have u5 := (HB5.out.cell (p := ⟨b', off + k, none⟩) hbb8).trans y8; have HO5 := Lib.hid own5; clear own5 g5 loc5)
              | (refine step_append_rd _ (by rfl) (.const (.slice none 0 0)) (.tmp 72) _ (by rfl) w8.heap.size tSl si _ 1 24 Try.underlying69 SI.out SZ.out SS.out SB.out rfl (by decide) (.slice none 0 0) 0 [] (by rfl) (World.ownsRow_nil ((w8.alloc (.cells #[.slice Ax nx cx] tSl)).drew) _ _ _) Aw want.length cw vs (by rfl) HXR2.out (by unfold maxLen; omega) (by omega) HK2.out.size ?_; intro v5b wb own5 g5 loc5; have HB5b := Lib.hid (HK2.out.grown g5 HK2.out.size (fun k hk => by cases hk)); have HXN5 := Lib.hid (HXN2.out.keep (fun b hb => by obtain ⟨off, e⟩ := hb; injection e with e; injection e with e _; subst e; exact g5.block _ (by show w8.heap.size < (w8.alloc (.cells #[.slice Ax nx cx] tSl)).heap.size; simp) (by simp [Value.ownBlock]))); have HO5b := Lib.hid own5; clear own5 g5 loc5)
              | (refine step_append_rd _ (by rfl) (.tmp 73) (.tmp 78) _ (by rfl) w8.heap.size tSl si _ 1 24 Try.underlying69 SI.out SZ.out SS.out SB.out rfl (by decide) v5 (0 + want.length) _ (by rfl) (own_upG HO5.out (.cells #[.slice Ax nx cx] tSl)) (some ⟨wa.heap.size, 0, none⟩) 1 1 [.slice Ax nx cx] (by rfl) (RdX.new wa 1 #[.slice Ax nx cx] tSl rfl (by simp [Value.oneCell'])) (by unfold maxLen; omega) (by omega) (HB5.out.alloc HB5.out.size _).size ?_; intro v6 w6 own6 g6 loc6; rw [Nat.zero_add, List.nil_append] at own6; have HB6 := Lib.hid ((HB5.out.alloc HB5.out.size (.cells #[.slice Ax nx cx] tSl)).grown g6 (HB5.out.alloc HB5.out.size _).size (fun k hk => (HO5.out.lt k hk).1)); have HO6 := Lib.hid own6; clear own6 g6 loc6)
              | (refine step_append_rd _ (by rfl) (.tmp 73) (.tmp 78) _ (by rfl) w8.heap.size tSl si _ 1 24 Try.underlying69 SI.out SZ.out SS.out SB.out rfl (by decide) v5b (0 + want.length) _ (by rfl) HO5b.out (some ⟨w8.heap.size, 0, none⟩) 1 1 [.slice Ax nx cx] (by rfl) HXN5.out (by unfold maxLen; omega) (by omega) HB5b.out.size ?_; intro v6 w6 own6 g6 loc6; rw [Nat.zero_add, List.nil_append] at own6; have HB6 := Lib.hid (HB5b.out.grown g6 HB5b.out.size (fun k hk => (HO5b.out.lt k hk).1)); have HO6 := Lib.hid own6; clear own6 g6 loc6))
          all_goals (
            have hfr6 := Fr.of_below HB6.out hz8
            have ho6 := HO6.out
            rw [← HLEN.out] at ho6
            obtain ⟨A6, c6, hv6, hk6⟩ := KpE.snoc HVS.out HVL.out HKC.out hfr6 ho6
            have hv7 : v6 = .slice A6 (want.length + 1) c6 := by rw [hv6, List.length_append]; rfl
            subst hv7
            have HK6 := Lib.hid hk6
            clear hfr6 ho6 hk6 hv6 HO6 HK1 HK2 HXR HXR2 HXN2 q5
            go_wp2_with fail
            go_meet
            exact ⟨A6, c6, rfl, HK6.out, HB6.out⟩)
        case rest =>
          obtain ⟨A6, c6, rfl, hk6, hb6⟩ := hcut
          generalize wc = w9 at *
          have HK69 := Lib.hid hk6
          have HFR9 := Lib.hid (Fr.of_below hb6 hz8)
          have HKW9 := Lib.hid ((HKW.out.keep HFR.out).keep HFR9.out)
          have HB9 := Lib.hid (HBL8.out.trans (hb6.mono hz8))
          have HD9 : Hid (∃ V, DkAt w9 w.heap.size (w.heap.size + 1) w.heap.size V D') := by
            obtain ⟨V, hd⟩ := HD8.out
            exact ⟨V, hd.keep fun _ _ hk => hb6.block _ hk⟩
          have HL9 : Hid (Blk w9 pl tLog #[ptr (w.heap.size + 1), .int .i64 (1 : Nat), .int .i64 (59 : Nat), .int .i64 (5 : Nat), .int .i64 u']) := (hb6.block pl HL8.out.lt).trans HL8.out
          have hany := HANY.out
          clear hk6 hb6 hrx HANY HKW HFR HBL8 HD8 HL8 HKC HVS HVL HFR9
          rcases hany with ⟨hpos, hne, rfl, rfl⟩ | ⟨rfl, hn9, hws9, hcr⟩ | ⟨rfl, rfl, hn9, hfl9, hrd9⟩
          · have hE2 : E = .iface 96 (.int .i64 er) := HE.out.trans (if_neg (by omega))
            subst hE2
            have HNB := Lib.hid (fun W => numb_err er W)
            have hz0 : (er == 11) = false := by rw [beq_eq_false_iff_ne]; exact hne
            clear HE
            go_wp2_with fail
            refine (HNB.out _).mono ?_
            rintro e w10 ⟨rfl, rfl⟩
            go_wp2
            go_roundw
            case rel => exact ⟨k + 1, u', want, D', Aw, cw, by omega, rfl, by go_num, by omega, ⟨HB9.out, HD9.out, HL9.out, HST.out.hpl, HST.out.flat, HST.out.dn, HST.out.rd⟩, HKW9.out⟩
            case measure => simp [intOf]; omega
          · have hE2 : E = .iface 96 (.int .i64 11) := HE.out
            subst hE2
            have HNB := Lib.hid (fun W => numb_err 11 W)
            have HDp := HD9
            have HBp := HB9
            have HKWp := HKW9
            have HK6p := HK69
            have HDNp : Hid (D'.n = 60) := hn9.trans HST.out.dn
            have HSMp : Hid (∀ i, i < D'.n → (D'.sec i).ws.length ≤ 100000) := fun i hi => by have := hws9 i (by rw [← hn9]; exact hi); omega
            obtain ⟨u9, hcr⟩ := hcr keep
            rw [← now_restartF] at hcr
            clear HE HD9 HB9 HKW9 HK69 HL9 hn9 hws9 HST hk hu
            go_wp2_with fail
            refine (HNB.out _).mono ?_
            rintro e w10 ⟨rfl, rfl⟩
            rcases hcr with hcr | hcr
            · have HRDp := Lib.hid hcr
              clear hcr
              obtain ⟨Vp, hdp⟩ := HDp.out
              have HRS := Lib.hid (restart_any w.heap.size (w.heap.size + 1) w.heap.size Vp D' keep w9 hdp hkp HSMp.out)
              unfold ptr at HRS
              have hu9 : u9 ≤ 59 := (rdR_end _ _ _ _ HRDp.out (fun _ _ => rfl)).1
              clear hdp
              go_wp2_with fail
              refine HRS.out.mono ?_
              rintro e w10 ⟨rfl, hd10, hb10, ht10⟩
              obtain ⟨V10, hd10⟩ := hd10
              have HKW10 := Lib.hid (HKWp.out.keep (Fr.of_ty ht10 hb10))
              have HB10 := Lib.hid (HBp.out.trans hb10)
              have HD10 := Lib.hid hd10
              have HOP := Lib.hid (open_kp w.heap.size w.heap.size (w.heap.size + 1) w.heap.size 1 59 5 V10 (restartR keep D') w10 hd10 rfl (by show 1 + 59 ≤ D'.n; rw [HDNp.out]; omega) (by omega) (by omega) (by omega) HRDp.out)
              rw [show ((1 : Nat) : Int) = 1 from rfl, show ((59 : Nat) : Int) = 59 from rfl, show ((5 : Nat) : Int) = 5 from rfl] at HOP
              unfold ptr at HOP
              clear hd10 hb10 ht10 HRS HKWp HBp HDp
              go_wp2_with fail
              refine HOP.out.mono ?_
              rintro e w11 ⟨Ag, cg, rfl, hkg, hl11, hb11⟩
              have hz10 : w.heap.size ≤ w10.heap.size := HB10.out.size
              have HKG := Lib.hid hkg
              have HL11 := Lib.hid hl11
              have HD11 := Lib.hid (HD10.out.keep fun _ _ hk => hb11.block _ hk)
              have HB11 := Lib.hid (HB10.out.trans (hb11.mono hz10))
              have hkw11 := HKW10.out.keep (Fr.of_below hb11 hz10)
              have HSD1 := Lib.hid (sameD_gen Ag Aw want.length want.length cg cw _ _ want want w11 hkg.rd hkw11.rd true ⟨fun _ => rfl, fun _ => rfl⟩)
              unfold ScPost at HSD1
              obtain ⟨pl2, hpl2⟩ : ∃ pl2, pl2 = w10.heap.size := ⟨_, rfl⟩
              rw [← hpl2] at HL11 hz10
              rw [← hpl2]
              clear hkg hl11 hb11 HOP HKW10 HB10 HD10 hkw11 hpl2
              go_wp2_with fail
              refine HSD1.out.mono ?_
              rintro e w12 ⟨rfl, q1, rfl⟩
              have HKG12 : Hid (KpE (w11.drewN q1) w.heap.size Ag (want.length) cg want) := by have h := HKG.out; exact h.keep ((Fr.refl _ _).drewN _)
              have HL12 : Hid (Blk (w11.drewN q1) pl2 tLog #[ptr (w.heap.size + 1), .int .i64 (1 : Nat), .int .i64 (59 : Nat), .int .i64 (5 : Nat), .int .i64 u9]) := HL11.out
              have HD12 : Hid (DkAt (w11.drewN q1) w.heap.size (w.heap.size + 1) w.heap.size V10 (restartR keep D')) := HD11.out.keep fun _ _ _ => rfl
              have HB12 := Lib.hid (below_drewN HB11.out q1)
              generalize hw12 : w11.drewN q1 = w12 at *
              clear HKG HL11 HD11 HB11 HSD1
              have hbo : Below w12.heap.size w12 (w12.alloc (.cells #[.string ⟨#[102, 47, 122]⟩, .string ⟨#[122]⟩, .bool false] tCh)) := (Below.refl _ _).alloc (Nat.le_refl _) _
              have hz12 : w.heap.size ≤ w12.heap.size := HB12.out.size
              have HKG13 := Lib.hid (HKG12.out.keep (Fr.of_below hbo hz12))
              have HL13 := Lib.hid (HL12.out.alloc (.cells #[.string ⟨#[102, 47, 122]⟩, .string ⟨#[122]⟩, .bool false] tCh))
              have HD13 := Lib.hid (HD12.out.keep (w' := w12.alloc (.cells #[.string ⟨#[102, 47, 122]⟩, .string ⟨#[122]⟩, .bool false] tCh)) fun _ _ hk => hbo.block _ hk)
              have HB13 := Lib.hid (HB12.out.trans (hbo.mono hz12))
              have HO13 := Lib.hid (Blk.new w12 tCh #[.string ⟨#[102, 47, 122]⟩, .string ⟨#[122]⟩, .bool false])
              have HRM := Lib.hid (room_any pl2 (w.heap.size + 1) 1 59 5 u9 (w12.alloc (.cells #[.string ⟨#[102, 47, 122]⟩, .string ⟨#[122]⟩, .bool false] tCh)) HL13.out (by omega) (by omega))
              unfold ptr at HRM
              rw [show ((59 : Nat) : Int) = 59 from rfl] at HRM
              clear hbo HKG12 HL12 HD12 HB12
              by_cases hrm : 57 < u9
              · have zr : (59 : Int) - (u9 : Int) < 2 := by omega
                go_wp2_with fail
                refine HRM.out.mono ?_
                rintro e w14 ⟨rfl, q3, rfl⟩
                go_wp2
                go_ret
                exact ⟨rfl, below_drewN HB13.out q3⟩
              have zr : decide ((59 : Int) - (u9 : Int) < 2) = false := decide_eq_false (by omega)
              go_wp2_with fail
              refine HRM.out.mono ?_
              rintro e w14 ⟨rfl, q3, rfl⟩
              have HKG14 := Lib.hid (HKG13.out.keep ((Fr.refl _ _).drewN q3))
              have HL14 : Hid (Blk ((w12.alloc (.cells #[.string ⟨#[102, 47, 122]⟩, .string ⟨#[122]⟩, .bool false] tCh)).drewN q3) pl2 tLog #[ptr (w.heap.size + 1), .int .i64 (1 : Nat), .int .i64 (59 : Nat), .int .i64 (5 : Nat), .int .i64 u9]) := HL13.out
              have HD14 : Hid (DkAt ((w12.alloc (.cells #[.string ⟨#[102, 47, 122]⟩, .string ⟨#[122]⟩, .bool false] tCh)).drewN q3) w.heap.size (w.heap.size + 1) w.heap.size V10 (restartR keep D')) := HD13.out.keep fun _ _ _ => rfl
              have HB14 := Lib.hid (below_drewN HB13.out q3)
              have HO14 : Hid (Blk ((w12.alloc (.cells #[.string ⟨#[102, 47, 122]⟩, .string ⟨#[122]⟩, .bool false] tCh)).drewN q3) w12.heap.size tCh #[.string ⟨#[102, 47, 122]⟩, .string ⟨#[122]⟩, .bool false]) := HO13.out
              have HRO : Hid (RdC ((w12.alloc (.cells #[.string ⟨#[102, 47, 122]⟩, .string ⟨#[122]⟩, .bool false] tCh)).drewN q3) ((w12.alloc (.cells #[.string ⟨#[102, 47, 122]⟩, .string ⟨#[122]⟩, .bool false] tCh)).drewN q3).heap.size (some ⟨w12.heap.size, 0, none⟩) 1 1 [(⟨⟨#[102, 47, 122]⟩, ⟨#[122]⟩, false⟩ : Ch)]) := (rdC_one w12 (⟨⟨#[102, 47, 122]⟩, ⟨#[122]⟩, false⟩ : Ch) tCh).drewN q3
              generalize (w12.alloc (.cells #[.string ⟨#[102, 47, 122]⟩, .string ⟨#[122]⟩, .bool false] tCh)).drewN q3 = w14 at *
              have HAD := Lib.hid (logAdd_any pl2 w.heap.size (w.heap.size + 1) w.heap.size 1 59 5 u9 (some ⟨w12.heap.size, 0, none⟩) 1 1 [(⟨⟨#[102, 47, 122]⟩, ⟨#[122]⟩, false⟩ : Ch)] V10 (restartR keep D') w14 HL14.out HD14.out HRO.out (fun f hf => by
                obtain rfl : f = (⟨⟨#[102, 47, 122]⟩, ⟨#[122]⟩, false⟩ : Ch) := by simpa using hf
                exact ⟨by show 3 ≤ 20; omega, by show 1 ≤ 400; omega⟩) (by omega) (by show 1 + 59 ≤ D'.n; rw [HDNp.out]; omega) (by omega) hu9 ((flat_restart keep D').wok 1 (by omega)) (by omega))
              unfold LaPost ptr at HAD
              clear HRM HKG13 HL13 HD13 HB13 HO13
              go_wp2_with fail
              refine HAD.out.mono ?_
              rintro e w15 ⟨er, D15, u15, rfl, hla, hd15, hl15, hb15, ht15⟩
              obtain ⟨V15, hd15⟩ := hd15
              obtain ⟨rfl, hg15, hn15, hr15⟩ : er = 0 ∧ Good D15 ∧ D15.n = D'.n ∧ rdR (nowF D15 1) 5 59 0 [] [] 0 = (want ++ [[(⟨⟨#[102, 47, 122]⟩, ⟨#[122]⟩, false⟩ : Ch)]], u9 + 1 + 1) := by
                rcases hla.good (good_restart keep D') ((flat_restart keep D').wok 1 (by omega)) (by show 1 + 59 ≤ D'.n; rw [HDNp.out]; omega) HRDp.out with ⟨h, _⟩ | ⟨h1, _, _, h2, _, h3, h4⟩
                · exact absurd ⟨by show 1 ≤ 40; omega, by show u9 + 1 + 1 ≤ 59; omega, fun c hc => by
                    obtain rfl : c = (⟨⟨#[102, 47, 122]⟩, ⟨#[122]⟩, false⟩ : Ch) := by simpa using hc
                    exact ck_fz⟩ h.not
                · exact ⟨h1, h2, h3, h4⟩
              rw [show erV 0 = .nilIface from rfl]
              have HKG15 := Lib.hid (HKG14.out.keep (Fr.of_tyx ht15 hb15 HL14.out))
              have HB15 := Lib.hid (HB14.out.trans hb15)
              have HO15 := Lib.hid (ht15 _ tCh _ HO14.out (by decide) (by decide) (by decide) (HO14.out.ne HL14.out (by decide)))
              have HOP2 := Lib.hid (open_kp w.heap.size w.heap.size (w.heap.size + 1) w.heap.size 1 59 5 V15 D15 w15 hd15 hg15.down (by rw [hn15, HDNp.out]; omega) (by omega) (by omega) (by omega) hr15)
              rw [show ((1 : Nat) : Int) = 1 from rfl, show ((59 : Nat) : Int) = 59 from rfl, show ((5 : Nat) : Int) = 5 from rfl, show (want ++ [[(⟨⟨#[102, 47, 122]⟩, ⟨#[122]⟩, false⟩ : Ch)]]).length = want.length + 1 by simp] at HOP2
              unfold ptr at HOP2
              clear hla hd15 hl15 hb15 ht15 hg15 hn15 hr15 HAD HKG14 HL14 HD14 HB14 HO14 HRO
              go_wp2_with fail
              refine HOP2.out.mono ?_
              rintro e w16 ⟨Am, cm, rfl, hkm, -, hb16⟩
              have hz15 : w.heap.size ≤ w15.heap.size := HB15.out.size
              have HKM := Lib.hid hkm
              have HKG16 := Lib.hid (HKG15.out.keep (Fr.of_below hb16 hz15))
              have HB16 := Lib.hid (HB15.out.trans (hb16.mono hz15))
              have HO16 : Hid (Blk w16 w12.heap.size tCh #[.string ⟨#[102, 47, 122]⟩, .string ⟨#[122]⟩, .bool false]) := (hb16.block _ HO15.out.lt).trans HO15.out
              obtain ⟨vs, hrx, hvs⟩ := HKG16.out.x
              have HVS := Lib.hid hvs
              have HVL : Hid (vs.length = want.length) := by have := hrx.1; have := HKG16.out.1; show _ = _; omega
              have HRXX := Lib.hid hrx
              have hesn : want.length ≤ 9 := by omega
              have HKC : Hid (KpC w16 w.heap.size (some ⟨w12.heap.size, 0, none⟩) [(⟨⟨#[102, 47, 122]⟩, ⟨#[122]⟩, false⟩ : Ch)].length 1 [(⟨⟨#[102, 47, 122]⟩, ⟨#[122]⟩, false⟩ : Ch)]) := by
                refine ⟨⟨rfl, Nat.le_refl _, by unfold maxLen; omega, fun _ => ⟨w12.heap.size, 0, rfl, HO16.out.lt, fun i f hi => ?_⟩⟩, fun b off e _ => .inr ?_⟩
                · cases i with
                  | zero =>
                    obtain rfl : (⟨⟨#[102, 47, 122]⟩, ⟨#[122]⟩, false⟩ : Ch) = f := by simpa using hi
                    exact ⟨HO16.out.cell 0, HO16.out.cell 1, HO16.out.cell 2⟩
                  | succ i => simp at hi
                · injection e with e
                  injection e with e _
                  subst e
                  exact ⟨_, HO16.out⟩
              have hz16 : w.heap.size ≤ w16.heap.size := HB16.out.size
              clear hkm hb16 HOP2 HKG15 HB15 HO15 hrx hvs
              go_wp2_with (at_builtin; refine wpList_append_rdG _ (by rfl) (.const (.slice none 0 0)) (.tmp 131) _ rfl w16.heap.size tSl si _ 1 24 Try.underlying69 SI.out SZ.out SS.out SB.out rfl (by omega) (.slice none 0 0) 0 [] rfl (World.ownsRow_nil _ _ _ _) Ag (want.length) cg vs rfl HRXX.out ?_ ?_ ?_ ?_)
              · unfold maxLen; omega
              · omega
              · exact Nat.le_refl _
              intro v5 w17 own5 g5 loc5
              have HB17 := Lib.hid (show Below w16.heap.size w16 w17 from (Below.refl _ _).grown g5 (Nat.le_refl _) (fun k hk => by cases hk))
              have HO17 := Lib.hid own5
              clear own5 g5 loc5
              go_wp2_with (at_builtin; refine wpList_append_rdG _ (by rfl) (.tmp 132) (.tmp 134) _ rfl w16.heap.size tSl si _ 1 24 Try.underlying69 SI.out SZ.out SS.out SB.out rfl (by omega) v5 _ _ rfl (own_upG HO17.out (.cells #[.slice (some ⟨w12.heap.size, 0, none⟩) 1 1] tSl)) (some ⟨w17.heap.size, 0, none⟩) 1 1 [.slice (some ⟨w12.heap.size, 0, none⟩) 1 1] rfl (RdX.new w17 1 #[.slice (some ⟨w12.heap.size, 0, none⟩) 1 1] tSl rfl (by simp [Value.oneCell'])) ?_ ?_ ?_ ?_)
              · unfold maxLen; omega
              · omega
              · exact (HB17.out.alloc HB17.out.size _).size
              intro v6 w18 own6 g6 loc6
              have HB18 := Lib.hid ((HB17.out.alloc HB17.out.size (.cells #[.slice (some ⟨w12.heap.size, 0, none⟩) 1 1] tSl)).grown g6 (HB17.out.alloc HB17.out.size _).size (fun k hk => (HO17.out.lt k hk).1))
              have ho6 : w18.ownsRow w16.heap.size tSl 1 v6 (want.length + 1) (vs ++ [.slice (some ⟨w12.heap.size, 0, none⟩) [(⟨⟨#[102, 47, 122]⟩, ⟨#[122]⟩, false⟩ : Ch)].length 1]) := by
                have h := own6
                try rw [Nat.zero_add] at h
                try rw [List.nil_append] at h
                exact h
              obtain ⟨A18, c18, hv18, hk18⟩ := KpE.snoc HVS.out HVL.out HKC.out (Fr.of_below HB18.out hz16) ho6
              have hv19 : v6 = .slice A18 (want.length + 1) c18 := by rw [hv18, show (want ++ [[(⟨⟨#[102, 47, 122]⟩, ⟨#[122]⟩, false⟩ : Ch)]]).length = want.length + 1 by simp]
              rw [show (want ++ [[(⟨⟨#[102, 47, 122]⟩, ⟨#[122]⟩, false⟩ : Ch)]]).length = want.length + 1 by simp] at hk18
              have HSD3 := Lib.hid (sameD_gen Am A18 (want.length + 1) (want.length + 1) cm c18 _ _ (want ++ [[(⟨⟨#[102, 47, 122]⟩, ⟨#[122]⟩, false⟩ : Ch)]]) (want ++ [[(⟨⟨#[102, 47, 122]⟩, ⟨#[122]⟩, false⟩ : Ch)]]) w18 (HKM.out.keep (Fr.of_below HB18.out hz16)).rd hk18.rd true ⟨fun _ => rfl, fun _ => rfl⟩)
              unfold ScPost at HSD3
              have HB19 := Lib.hid (HB16.out.trans (HB18.out.mono hz16))
              subst hv19
              clear own6 g6 loc6 ho6 hv18 hk18
              go_wp2_with fail
              refine HSD3.out.mono ?_
              rintro e w19 ⟨rfl, q9, rfl⟩
              go_wp2
              go_ret
              exact ⟨rfl, below_drewN HB19.out q9⟩
            · have HRDp := Lib.hid hcr
              clear hcr
              obtain ⟨Vp, hdp⟩ := HDp.out
              have HRS := Lib.hid (restart_any w.heap.size (w.heap.size + 1) w.heap.size Vp D' keep w9 hdp hkp HSMp.out)
              unfold ptr at HRS
              have hu9 : u9 ≤ 59 := (rdR_end _ _ _ _ HRDp.out (fun _ _ => rfl)).1
              clear hdp
              go_wp2_with fail
              refine HRS.out.mono ?_
              rintro e w10 ⟨rfl, hd10, hb10, ht10⟩
              obtain ⟨V10, hd10⟩ := hd10
              have HKW10 := Lib.hid (HKWp.out.keep (Fr.of_ty ht10 hb10))
              have HK610 := Lib.hid (HK6p.out.keep (Fr.of_ty ht10 hb10))
              have HB10 := Lib.hid (HBp.out.trans hb10)
              have HD10 := Lib.hid hd10
              have HOP := Lib.hid (open_kp w.heap.size w.heap.size (w.heap.size + 1) w.heap.size 1 59 5 V10 (restartR keep D') w10 hd10 rfl (by show 1 + 59 ≤ D'.n; rw [HDNp.out]; omega) (by omega) (by omega) (by omega) HRDp.out)
              rw [show ((1 : Nat) : Int) = 1 from rfl, show ((59 : Nat) : Int) = 59 from rfl, show ((5 : Nat) : Int) = 5 from rfl] at HOP
              unfold ptr at HOP
              clear hd10 hb10 ht10 HRS HKWp HBp HDp
              go_wp2_with fail
              refine HOP.out.mono ?_
              rintro e w11 ⟨Ag, cg, rfl, hkg, hl11, hb11⟩
              have hz10 : w.heap.size ≤ w10.heap.size := HB10.out.size
              have HKG := Lib.hid hkg
              have HL11 := Lib.hid hl11
              have HD11 := Lib.hid (HD10.out.keep fun _ _ hk => hb11.block _ hk)
              have HB11 := Lib.hid (HB10.out.trans (hb11.mono hz10))
              have hkw11 := HKW10.out.keep (Fr.of_below hb11 hz10)
              have hk611 := HK610.out.keep (Fr.of_below hb11 hz10)
              have HSD1 := Lib.hid (sameD_gen Ag Aw (want ++ [x]).length want.length cg cw _ _ (want ++ [x]) want w11 hkg.rd hkw11.rd false ⟨fun h => (by cases h), fun h => (by have := congrArg List.length h; simp at this)⟩)
              have HSD2 := Lib.hid (fun q => sameD_gen Ag A6 (want ++ [x]).length (want ++ [x]).length cg c6 _ _ (want ++ [x]) (want ++ [x]) (w11.drewN q) (hkg.keep ((Fr.refl _ _).drewN q)).rd (hk611.keep ((Fr.refl _ _).drewN q)).rd true ⟨fun _ => rfl, fun _ => rfl⟩)
              unfold ScPost at HSD1 HSD2
              have hlx : (want ++ [x]).length = want.length + 1 := by simp
              rw [hlx] at HSD1 HSD2 HKG
              rw [hlx]
              clear hk611 HK610 hlx
              obtain ⟨pl2, hpl2⟩ : ∃ pl2, pl2 = w10.heap.size := ⟨_, rfl⟩
              rw [← hpl2] at HL11 hz10
              rw [← hpl2]
              clear hkg hl11 hb11 HOP HKW10 HB10 HD10 hkw11 hpl2
              go_wp2_with fail
              refine HSD1.out.mono ?_
              rintro e w12 ⟨rfl, q1, rfl⟩
              go_wp2_with fail
              refine (HSD2.out _).mono ?_
              rintro e w12 ⟨rfl, q2, rfl⟩
              have HKG12 : Hid (KpE (w11.drewN (q1 + q2)) w.heap.size Ag (want.length + 1) cg (want ++ [x])) := by have h := HKG.out; exact h.keep ((Fr.refl _ _).drewN _)
              have HL12 : Hid (Blk (w11.drewN (q1 + q2)) pl2 tLog #[ptr (w.heap.size + 1), .int .i64 (1 : Nat), .int .i64 (59 : Nat), .int .i64 (5 : Nat), .int .i64 u9]) := HL11.out
              have HD12 : Hid (DkAt (w11.drewN (q1 + q2)) w.heap.size (w.heap.size + 1) w.heap.size V10 (restartR keep D')) := HD11.out.keep fun _ _ _ => rfl
              have HB12 := Lib.hid (below_drewN HB11.out (q1 + q2))
              generalize hw12 : w11.drewN (q1 + q2) = w12 at *
              clear HKG HL11 HD11 HB11 HSD1
              have hbo : Below w12.heap.size w12 (w12.alloc (.cells #[.string ⟨#[102, 47, 122]⟩, .string ⟨#[122]⟩, .bool false] tCh)) := (Below.refl _ _).alloc (Nat.le_refl _) _
              have hz12 : w.heap.size ≤ w12.heap.size := HB12.out.size
              have HKG13 := Lib.hid (HKG12.out.keep (Fr.of_below hbo hz12))
              have HL13 := Lib.hid (HL12.out.alloc (.cells #[.string ⟨#[102, 47, 122]⟩, .string ⟨#[122]⟩, .bool false] tCh))
              have HD13 := Lib.hid (HD12.out.keep (w' := w12.alloc (.cells #[.string ⟨#[102, 47, 122]⟩, .string ⟨#[122]⟩, .bool false] tCh)) fun _ _ hk => hbo.block _ hk)
              have HB13 := Lib.hid (HB12.out.trans (hbo.mono hz12))
              have HO13 := Lib.hid (Blk.new w12 tCh #[.string ⟨#[102, 47, 122]⟩, .string ⟨#[122]⟩, .bool false])
              have HRM := Lib.hid (room_any pl2 (w.heap.size + 1) 1 59 5 u9 (w12.alloc (.cells #[.string ⟨#[102, 47, 122]⟩, .string ⟨#[122]⟩, .bool false] tCh)) HL13.out (by omega) (by omega))
              unfold ptr at HRM
              rw [show ((59 : Nat) : Int) = 59 from rfl] at HRM
              clear hbo HKG12 HL12 HD12 HB12
              by_cases hrm : 57 < u9
              · have zr : (59 : Int) - (u9 : Int) < 2 := by omega
                go_wp2_with fail
                refine HRM.out.mono ?_
                rintro e w14 ⟨rfl, q3, rfl⟩
                go_wp2
                go_ret
                exact ⟨rfl, below_drewN HB13.out q3⟩
              have zr : decide ((59 : Int) - (u9 : Int) < 2) = false := decide_eq_false (by omega)
              go_wp2_with fail
              refine HRM.out.mono ?_
              rintro e w14 ⟨rfl, q3, rfl⟩
              have HKG14 := Lib.hid (HKG13.out.keep ((Fr.refl _ _).drewN q3))
              have HL14 : Hid (Blk ((w12.alloc (.cells #[.string ⟨#[102, 47, 122]⟩, .string ⟨#[122]⟩, .bool false] tCh)).drewN q3) pl2 tLog #[ptr (w.heap.size + 1), .int .i64 (1 : Nat), .int .i64 (59 : Nat), .int .i64 (5 : Nat), .int .i64 u9]) := HL13.out
              have HD14 : Hid (DkAt ((w12.alloc (.cells #[.string ⟨#[102, 47, 122]⟩, .string ⟨#[122]⟩, .bool false] tCh)).drewN q3) w.heap.size (w.heap.size + 1) w.heap.size V10 (restartR keep D')) := HD13.out.keep fun _ _ _ => rfl
              have HB14 := Lib.hid (below_drewN HB13.out q3)
              have HO14 : Hid (Blk ((w12.alloc (.cells #[.string ⟨#[102, 47, 122]⟩, .string ⟨#[122]⟩, .bool false] tCh)).drewN q3) w12.heap.size tCh #[.string ⟨#[102, 47, 122]⟩, .string ⟨#[122]⟩, .bool false]) := HO13.out
              have HRO : Hid (RdC ((w12.alloc (.cells #[.string ⟨#[102, 47, 122]⟩, .string ⟨#[122]⟩, .bool false] tCh)).drewN q3) ((w12.alloc (.cells #[.string ⟨#[102, 47, 122]⟩, .string ⟨#[122]⟩, .bool false] tCh)).drewN q3).heap.size (some ⟨w12.heap.size, 0, none⟩) 1 1 [(⟨⟨#[102, 47, 122]⟩, ⟨#[122]⟩, false⟩ : Ch)]) := (rdC_one w12 (⟨⟨#[102, 47, 122]⟩, ⟨#[122]⟩, false⟩ : Ch) tCh).drewN q3
              generalize (w12.alloc (.cells #[.string ⟨#[102, 47, 122]⟩, .string ⟨#[122]⟩, .bool false] tCh)).drewN q3 = w14 at *
              have HAD := Lib.hid (logAdd_any pl2 w.heap.size (w.heap.size + 1) w.heap.size 1 59 5 u9 (some ⟨w12.heap.size, 0, none⟩) 1 1 [(⟨⟨#[102, 47, 122]⟩, ⟨#[122]⟩, false⟩ : Ch)] V10 (restartR keep D') w14 HL14.out HD14.out HRO.out (fun f hf => by
                obtain rfl : f = (⟨⟨#[102, 47, 122]⟩, ⟨#[122]⟩, false⟩ : Ch) := by simpa using hf
                exact ⟨by show 3 ≤ 20; omega, by show 1 ≤ 400; omega⟩) (by omega) (by show 1 + 59 ≤ D'.n; rw [HDNp.out]; omega) (by omega) hu9 ((flat_restart keep D').wok 1 (by omega)) (by omega))
              unfold LaPost ptr at HAD
              clear HRM HKG13 HL13 HD13 HB13 HO13
              go_wp2_with fail
              refine HAD.out.mono ?_
              rintro e w15 ⟨er, D15, u15, rfl, hla, hd15, hl15, hb15, ht15⟩
              obtain ⟨V15, hd15⟩ := hd15
              obtain ⟨rfl, hg15, hn15, hr15⟩ : er = 0 ∧ Good D15 ∧ D15.n = D'.n ∧ rdR (nowF D15 1) 5 59 0 [] [] 0 = ((want ++ [x]) ++ [[(⟨⟨#[102, 47, 122]⟩, ⟨#[122]⟩, false⟩ : Ch)]], u9 + 1 + 1) := by
                rcases hla.good (good_restart keep D') ((flat_restart keep D').wok 1 (by omega)) (by show 1 + 59 ≤ D'.n; rw [HDNp.out]; omega) HRDp.out with ⟨h, _⟩ | ⟨h1, _, _, h2, _, h3, h4⟩
                · exact absurd ⟨by show 1 ≤ 40; omega, by show u9 + 1 + 1 ≤ 59; omega, fun c hc => by
                    obtain rfl : c = (⟨⟨#[102, 47, 122]⟩, ⟨#[122]⟩, false⟩ : Ch) := by simpa using hc
                    exact ck_fz⟩ h.not
                · exact ⟨h1, h2, h3, h4⟩
              rw [show erV 0 = .nilIface from rfl]
              have HKG15 := Lib.hid (HKG14.out.keep (Fr.of_tyx ht15 hb15 HL14.out))
              have HB15 := Lib.hid (HB14.out.trans hb15)
              have HO15 := Lib.hid (ht15 _ tCh _ HO14.out (by decide) (by decide) (by decide) (HO14.out.ne HL14.out (by decide)))
              have HOP2 := Lib.hid (open_kp w.heap.size w.heap.size (w.heap.size + 1) w.heap.size 1 59 5 V15 D15 w15 hd15 hg15.down (by rw [hn15, HDNp.out]; omega) (by omega) (by omega) (by omega) hr15)
              rw [show ((1 : Nat) : Int) = 1 from rfl, show ((59 : Nat) : Int) = 59 from rfl, show ((5 : Nat) : Int) = 5 from rfl, show ((want ++ [x]) ++ [[(⟨⟨#[102, 47, 122]⟩, ⟨#[122]⟩, false⟩ : Ch)]]).length = want.length + 1 + 1 by simp] at HOP2
              unfold ptr at HOP2
              clear hla hd15 hl15 hb15 ht15 hg15 hn15 hr15 HAD HKG14 HL14 HD14 HB14 HO14 HRO
              go_wp2_with fail
              refine HOP2.out.mono ?_
              rintro e w16 ⟨Am, cm, rfl, hkm, -, hb16⟩
              have hz15 : w.heap.size ≤ w15.heap.size := HB15.out.size
              have HKM := Lib.hid hkm
              have HKG16 := Lib.hid (HKG15.out.keep (Fr.of_below hb16 hz15))
              have HB16 := Lib.hid (HB15.out.trans (hb16.mono hz15))
              have HO16 : Hid (Blk w16 w12.heap.size tCh #[.string ⟨#[102, 47, 122]⟩, .string ⟨#[122]⟩, .bool false]) := (hb16.block _ HO15.out.lt).trans HO15.out
              obtain ⟨vs, hrx, hvs⟩ := HKG16.out.x
              have HVS := Lib.hid hvs
              have HVL : Hid (vs.length = (want ++ [x]).length) := by have := hrx.1; have := HKG16.out.1; show _ = _; omega
              have HRXX := Lib.hid hrx
              have hesn : (want ++ [x]).length ≤ 9 := by rw [List.length_append]; show want.length + 1 ≤ 9; omega
              have HKC : Hid (KpC w16 w.heap.size (some ⟨w12.heap.size, 0, none⟩) [(⟨⟨#[102, 47, 122]⟩, ⟨#[122]⟩, false⟩ : Ch)].length 1 [(⟨⟨#[102, 47, 122]⟩, ⟨#[122]⟩, false⟩ : Ch)]) := by
                refine ⟨⟨rfl, Nat.le_refl _, by unfold maxLen; omega, fun _ => ⟨w12.heap.size, 0, rfl, HO16.out.lt, fun i f hi => ?_⟩⟩, fun b off e _ => .inr ?_⟩
                · cases i with
                  | zero =>
                    obtain rfl : (⟨⟨#[102, 47, 122]⟩, ⟨#[122]⟩, false⟩ : Ch) = f := by simpa using hi
                    exact ⟨HO16.out.cell 0, HO16.out.cell 1, HO16.out.cell 2⟩
                  | succ i => simp at hi
                · injection e with e
                  injection e with e _
                  subst e
                  exact ⟨_, HO16.out⟩
              have hz16 : w.heap.size ≤ w16.heap.size := HB16.out.size
              clear hkm hb16 HOP2 HKG15 HB15 HO15 hrx hvs
              go_wp2_with (at_builtin; refine wpList_append_rdG _ (by rfl) (.const (.slice none 0 0)) (.tmp 131) _ rfl w16.heap.size tSl si _ 1 24 Try.underlying69 SI.out SZ.out SS.out SB.out rfl (by omega) (.slice none 0 0) 0 [] rfl (World.ownsRow_nil _ _ _ _) Ag (want.length + 1) cg vs rfl HRXX.out ?_ ?_ ?_ ?_)
              · unfold maxLen; omega
              · omega
              · exact Nat.le_refl _
              intro v5 w17 own5 g5 loc5
              have HB17 := Lib.hid (show Below w16.heap.size w16 w17 from (Below.refl _ _).grown g5 (Nat.le_refl _) (fun k hk => by cases hk))
              have HO17 := Lib.hid own5
              clear own5 g5 loc5
              go_wp2_with (at_builtin; refine wpList_append_rdG _ (by rfl) (.tmp 132) (.tmp 134) _ rfl w16.heap.size tSl si _ 1 24 Try.underlying69 SI.out SZ.out SS.out SB.out rfl (by omega) v5 _ _ rfl (own_upG HO17.out (.cells #[.slice (some ⟨w12.heap.size, 0, none⟩) 1 1] tSl)) (some ⟨w17.heap.size, 0, none⟩) 1 1 [.slice (some ⟨w12.heap.size, 0, none⟩) 1 1] rfl (RdX.new w17 1 #[.slice (some ⟨w12.heap.size, 0, none⟩) 1 1] tSl rfl (by simp [Value.oneCell'])) ?_ ?_ ?_ ?_)
              · unfold maxLen; omega
              · omega
              · exact (HB17.out.alloc HB17.out.size _).size
              intro v6 w18 own6 g6 loc6
              have HB18 := Lib.hid ((HB17.out.alloc HB17.out.size (.cells #[.slice (some ⟨w12.heap.size, 0, none⟩) 1 1] tSl)).grown g6 (HB17.out.alloc HB17.out.size _).size (fun k hk => (HO17.out.lt k hk).1))
              have ho6 : w18.ownsRow w16.heap.size tSl 1 v6 ((want ++ [x]).length + 1) (vs ++ [.slice (some ⟨w12.heap.size, 0, none⟩) [(⟨⟨#[102, 47, 122]⟩, ⟨#[122]⟩, false⟩ : Ch)].length 1]) := by
                have h := own6
                try rw [Nat.zero_add] at h
                try rw [List.nil_append] at h
                rw [show (want ++ [x]).length = want.length + 1 by simp]; exact h
              obtain ⟨A18, c18, hv18, hk18⟩ := KpE.snoc HVS.out HVL.out HKC.out (Fr.of_below HB18.out hz16) ho6
              have hv19 : v6 = .slice A18 (want.length + 1 + 1) c18 := by rw [hv18, show ((want ++ [x]) ++ [[(⟨⟨#[102, 47, 122]⟩, ⟨#[122]⟩, false⟩ : Ch)]]).length = want.length + 1 + 1 by simp]
              rw [show ((want ++ [x]) ++ [[(⟨⟨#[102, 47, 122]⟩, ⟨#[122]⟩, false⟩ : Ch)]]).length = want.length + 1 + 1 by simp] at hk18
              have HSD3 := Lib.hid (sameD_gen Am A18 (want.length + 1 + 1) (want.length + 1 + 1) cm c18 _ _ ((want ++ [x]) ++ [[(⟨⟨#[102, 47, 122]⟩, ⟨#[122]⟩, false⟩ : Ch)]]) ((want ++ [x]) ++ [[(⟨⟨#[102, 47, 122]⟩, ⟨#[122]⟩, false⟩ : Ch)]]) w18 (HKM.out.keep (Fr.of_below HB18.out hz16)).rd hk18.rd true ⟨fun _ => rfl, fun _ => rfl⟩)
              unfold ScPost at HSD3
              have HB19 := Lib.hid (HB16.out.trans (HB18.out.mono hz16))
              subst hv19
              clear own6 g6 loc6 ho6 hv18 hk18
              go_wp2_with fail
              refine HSD3.out.mono ?_
              rintro e w19 ⟨rfl, q9, rfl⟩
              go_wp2
              go_ret
              exact ⟨rfl, below_drewN HB19.out q9⟩
          · have hE2 : E = .nilIface := HE.out
            subst hE2
            clear HE
            go_wp2
            go_roundw
            case rel => exact ⟨k + 1, u + x.length + 1, want ++ [x], D', A6, c6, by omega, by rw [List.length_append]; rfl, by go_num, by rw [List.length_append]; show want.length + 1 ≤ k + 1; omega, ⟨HB9.out, HD9.out, HL9.out, HST.out.hpl, hfl9, hn9.trans HST.out.dn, hrd9⟩, HK69.out⟩
            case measure => simp [intOf]; omega
      · obtain rfl : n0 = k := by omega
        have HDp := Lib.hid HST.out.dk
        have HBp := Lib.hid HST.out.bel
        have HKWp := HKW
        have HDNp := Lib.hid HST.out.dn
        have HSMp : Hid (∀ i, i < D.n → (D.sec i).ws.length ≤ 100000) := fun i hi => by rw [HST.out.flat.ws i hi]; exact Nat.zero_le _
        have HRDp : Hid (rdR (nowF (restartR keep D) 1) 5 59 0 [] [] 0 = (want, u)) := by
          show _ = _
          rw [← HST.out.rd]
          exact rdR_congr _ _ _ _ _ fun j _ hj => stay_flat (HST.out.flat.ws (1 + j) (by rw [HST.out.dn]; omega)) keep
        clear HST HKW
        obtain ⟨Vp, hdp⟩ := HDp.out
        have HRS := Lib.hid (restart_any w.heap.size (w.heap.size + 1) w.heap.size Vp D keep wr hdp hkp HSMp.out)
        unfold ptr at HRS
        have hu : u ≤ 59 := (rdR_end _ _ _ _ HRDp.out (fun _ _ => rfl)).1
        clear hdp
        go_wp2_with fail
        refine HRS.out.mono ?_
        rintro e w10 ⟨rfl, hd10, hb10, ht10⟩
        obtain ⟨V10, hd10⟩ := hd10
        have HKW10 := Lib.hid (HKWp.out.keep (Fr.of_ty ht10 hb10))
        have HB10 := Lib.hid (HBp.out.trans hb10)
        have HD10 := Lib.hid hd10
        have HOP := Lib.hid (open_kp w.heap.size w.heap.size (w.heap.size + 1) w.heap.size 1 59 5 V10 (restartR keep D) w10 hd10 rfl (by show 1 + 59 ≤ D.n; rw [HDNp.out]; omega) (by omega) (by omega) (by omega) HRDp.out)
        rw [show ((1 : Nat) : Int) = 1 from rfl, show ((59 : Nat) : Int) = 59 from rfl, show ((5 : Nat) : Int) = 5 from rfl] at HOP
        unfold ptr at HOP
        clear hd10 hb10 ht10 HRS HKWp HBp HDp
        go_wp2_with fail
        refine HOP.out.mono ?_
        rintro e w11 ⟨Ag, cg, rfl, hkg, hl11, hb11⟩
        have hz10 : w.heap.size ≤ w10.heap.size := HB10.out.size
        have HKG := Lib.hid hkg
        have HL11 := Lib.hid hl11
        have HD11 := Lib.hid (HD10.out.keep fun _ _ hk => hb11.block _ hk)
        have HB11 := Lib.hid (HB10.out.trans (hb11.mono hz10))
        have hkw11 := HKW10.out.keep (Fr.of_below hb11 hz10)
        have HSD1 := Lib.hid (sameD_gen Ag Aw want.length want.length cg cw _ _ want want w11 hkg.rd hkw11.rd true ⟨fun _ => rfl, fun _ => rfl⟩)
        unfold ScPost at HSD1
        obtain ⟨pl2, hpl2⟩ : ∃ pl2, pl2 = w10.heap.size := ⟨_, rfl⟩
        rw [← hpl2] at HL11 hz10
        rw [← hpl2]
        clear hkg hl11 hb11 HOP HKW10 HB10 HD10 hkw11 hpl2
        go_wp2_with fail
        refine HSD1.out.mono ?_
        rintro e w12 ⟨rfl, q1, rfl⟩
        have HKG12 : Hid (KpE (w11.drewN q1) w.heap.size Ag (want.length) cg want) := by have h := HKG.out; exact h.keep ((Fr.refl _ _).drewN _)
        have HL12 : Hid (Blk (w11.drewN q1) pl2 tLog #[ptr (w.heap.size + 1), .int .i64 (1 : Nat), .int .i64 (59 : Nat), .int .i64 (5 : Nat), .int .i64 u]) := HL11.out
        have HD12 : Hid (DkAt (w11.drewN q1) w.heap.size (w.heap.size + 1) w.heap.size V10 (restartR keep D)) := HD11.out.keep fun _ _ _ => rfl
        have HB12 := Lib.hid (below_drewN HB11.out q1)
        generalize hw12 : w11.drewN q1 = w12 at *
        clear HKG HL11 HD11 HB11 HSD1
        have hbo : Below w12.heap.size w12 (w12.alloc (.cells #[.string ⟨#[102, 47, 122]⟩, .string ⟨#[122]⟩, .bool false] tCh)) := (Below.refl _ _).alloc (Nat.le_refl _) _
        have hz12 : w.heap.size ≤ w12.heap.size := HB12.out.size
        have HKG13 := Lib.hid (HKG12.out.keep (Fr.of_below hbo hz12))
        have HL13 := Lib.hid (HL12.out.alloc (.cells #[.string ⟨#[102, 47, 122]⟩, .string ⟨#[122]⟩, .bool false] tCh))
        have HD13 := Lib.hid (HD12.out.keep (w' := w12.alloc (.cells #[.string ⟨#[102, 47, 122]⟩, .string ⟨#[122]⟩, .bool false] tCh)) fun _ _ hk => hbo.block _ hk)
        have HB13 := Lib.hid (HB12.out.trans (hbo.mono hz12))
        have HO13 := Lib.hid (Blk.new w12 tCh #[.string ⟨#[102, 47, 122]⟩, .string ⟨#[122]⟩, .bool false])
        have HRM := Lib.hid (room_any pl2 (w.heap.size + 1) 1 59 5 u (w12.alloc (.cells #[.string ⟨#[102, 47, 122]⟩, .string ⟨#[122]⟩, .bool false] tCh)) HL13.out (by omega) (by omega))
        unfold ptr at HRM
        rw [show ((59 : Nat) : Int) = 59 from rfl] at HRM
        clear hbo HKG12 HL12 HD12 HB12
        by_cases hrm : 57 < u
        · have zr : (59 : Int) - (u : Int) < 2 := by omega
          go_wp2_with fail
          refine HRM.out.mono ?_
          rintro e w14 ⟨rfl, q3, rfl⟩
          go_wp2
          go_ret
          exact ⟨rfl, below_drewN HB13.out q3⟩
        have zr : decide ((59 : Int) - (u : Int) < 2) = false := decide_eq_false (by omega)
        go_wp2_with fail
        refine HRM.out.mono ?_
        rintro e w14 ⟨rfl, q3, rfl⟩
        have HKG14 := Lib.hid (HKG13.out.keep ((Fr.refl _ _).drewN q3))
        have HL14 : Hid (Blk ((w12.alloc (.cells #[.string ⟨#[102, 47, 122]⟩, .string ⟨#[122]⟩, .bool false] tCh)).drewN q3) pl2 tLog #[ptr (w.heap.size + 1), .int .i64 (1 : Nat), .int .i64 (59 : Nat), .int .i64 (5 : Nat), .int .i64 u]) := HL13.out
        have HD14 : Hid (DkAt ((w12.alloc (.cells #[.string ⟨#[102, 47, 122]⟩, .string ⟨#[122]⟩, .bool false] tCh)).drewN q3) w.heap.size (w.heap.size + 1) w.heap.size V10 (restartR keep D)) := HD13.out.keep fun _ _ _ => rfl
        have HB14 := Lib.hid (below_drewN HB13.out q3)
        have HO14 : Hid (Blk ((w12.alloc (.cells #[.string ⟨#[102, 47, 122]⟩, .string ⟨#[122]⟩, .bool false] tCh)).drewN q3) w12.heap.size tCh #[.string ⟨#[102, 47, 122]⟩, .string ⟨#[122]⟩, .bool false]) := HO13.out
        have HRO : Hid (RdC ((w12.alloc (.cells #[.string ⟨#[102, 47, 122]⟩, .string ⟨#[122]⟩, .bool false] tCh)).drewN q3) ((w12.alloc (.cells #[.string ⟨#[102, 47, 122]⟩, .string ⟨#[122]⟩, .bool false] tCh)).drewN q3).heap.size (some ⟨w12.heap.size, 0, none⟩) 1 1 [(⟨⟨#[102, 47, 122]⟩, ⟨#[122]⟩, false⟩ : Ch)]) := (rdC_one w12 (⟨⟨#[102, 47, 122]⟩, ⟨#[122]⟩, false⟩ : Ch) tCh).drewN q3
        generalize (w12.alloc (.cells #[.string ⟨#[102, 47, 122]⟩, .string ⟨#[122]⟩, .bool false] tCh)).drewN q3 = w14 at *
        have HAD := Lib.hid (logAdd_any pl2 w.heap.size (w.heap.size + 1) w.heap.size 1 59 5 u (some ⟨w12.heap.size, 0, none⟩) 1 1 [(⟨⟨#[102, 47, 122]⟩, ⟨#[122]⟩, false⟩ : Ch)] V10 (restartR keep D) w14 HL14.out HD14.out HRO.out (fun f hf => by
          obtain rfl : f = (⟨⟨#[102, 47, 122]⟩, ⟨#[122]⟩, false⟩ : Ch) := by simpa using hf
          exact ⟨by show 3 ≤ 20; omega, by show 1 ≤ 400; omega⟩) (by omega) (by show 1 + 59 ≤ D.n; rw [HDNp.out]; omega) (by omega) hu ((flat_restart keep D).wok 1 (by omega)) (by omega))
        unfold LaPost ptr at HAD
        clear HRM HKG13 HL13 HD13 HB13 HO13
        go_wp2_with fail
        refine HAD.out.mono ?_
        rintro e w15 ⟨er, D15, u15, rfl, hla, hd15, hl15, hb15, ht15⟩
        obtain ⟨V15, hd15⟩ := hd15
        obtain ⟨rfl, hg15, hn15, hr15⟩ : er = 0 ∧ Good D15 ∧ D15.n = D.n ∧ rdR (nowF D15 1) 5 59 0 [] [] 0 = (want ++ [[(⟨⟨#[102, 47, 122]⟩, ⟨#[122]⟩, false⟩ : Ch)]], u + 1 + 1) := by
          rcases hla.good (good_restart keep D) ((flat_restart keep D).wok 1 (by omega)) (by show 1 + 59 ≤ D.n; rw [HDNp.out]; omega) HRDp.out with ⟨h, _⟩ | ⟨h1, _, _, h2, _, h3, h4⟩
          · exact absurd ⟨by show 1 ≤ 40; omega, by show u + 1 + 1 ≤ 59; omega, fun c hc => by
              obtain rfl : c = (⟨⟨#[102, 47, 122]⟩, ⟨#[122]⟩, false⟩ : Ch) := by simpa using hc
              exact ck_fz⟩ h.not
          · exact ⟨h1, h2, h3, h4⟩
        rw [show erV 0 = .nilIface from rfl]
        have HKG15 := Lib.hid (HKG14.out.keep (Fr.of_tyx ht15 hb15 HL14.out))
        have HB15 := Lib.hid (HB14.out.trans hb15)
        have HO15 := Lib.hid (ht15 _ tCh _ HO14.out (by decide) (by decide) (by decide) (HO14.out.ne HL14.out (by decide)))
        have HOP2 := Lib.hid (open_kp w.heap.size w.heap.size (w.heap.size + 1) w.heap.size 1 59 5 V15 D15 w15 hd15 hg15.down (by rw [hn15, HDNp.out]; omega) (by omega) (by omega) (by omega) hr15)
        rw [show ((1 : Nat) : Int) = 1 from rfl, show ((59 : Nat) : Int) = 59 from rfl, show ((5 : Nat) : Int) = 5 from rfl, show (want ++ [[(⟨⟨#[102, 47, 122]⟩, ⟨#[122]⟩, false⟩ : Ch)]]).length = want.length + 1 by simp] at HOP2
        unfold ptr at HOP2
        clear hla hd15 hl15 hb15 ht15 hg15 hn15 hr15 HAD HKG14 HL14 HD14 HB14 HO14 HRO
        go_wp2_with fail
        refine HOP2.out.mono ?_
        rintro e w16 ⟨Am, cm, rfl, hkm, -, hb16⟩
        have hz15 : w.heap.size ≤ w15.heap.size := HB15.out.size
        have HKM := Lib.hid hkm
        have HKG16 := Lib.hid (HKG15.out.keep (Fr.of_below hb16 hz15))
        have HB16 := Lib.hid (HB15.out.trans (hb16.mono hz15))
        have HO16 : Hid (Blk w16 w12.heap.size tCh #[.string ⟨#[102, 47, 122]⟩, .string ⟨#[122]⟩, .bool false]) := (hb16.block _ HO15.out.lt).trans HO15.out
        obtain ⟨vs, hrx, hvs⟩ := HKG16.out.x
        have HVS := Lib.hid hvs
        have HVL : Hid (vs.length = want.length) := by have := hrx.1; have := HKG16.out.1; show _ = _; omega
        have HRXX := Lib.hid hrx
        have hesn : want.length ≤ 9 := by omega
        have HKC : Hid (KpC w16 w.heap.size (some ⟨w12.heap.size, 0, none⟩) [(⟨⟨#[102, 47, 122]⟩, ⟨#[122]⟩, false⟩ : Ch)].length 1 [(⟨⟨#[102, 47, 122]⟩, ⟨#[122]⟩, false⟩ : Ch)]) := by
          refine ⟨⟨rfl, Nat.le_refl _, by unfold maxLen; omega, fun _ => ⟨w12.heap.size, 0, rfl, HO16.out.lt, fun i f hi => ?_⟩⟩, fun b off e _ => .inr ?_⟩
          · cases i with
            | zero =>
              obtain rfl : (⟨⟨#[102, 47, 122]⟩, ⟨#[122]⟩, false⟩ : Ch) = f := by simpa using hi
              exact ⟨HO16.out.cell 0, HO16.out.cell 1, HO16.out.cell 2⟩
            | succ i => simp at hi
          · injection e with e
            injection e with e _
            subst e
            exact ⟨_, HO16.out⟩
        have hz16 : w.heap.size ≤ w16.heap.size := HB16.out.size
        clear hkm hb16 HOP2 HKG15 HB15 HO15 hrx hvs
        go_wp2_with (at_builtin; refine wpList_append_rdG _ (by rfl) (.const (.slice none 0 0)) (.tmp 131) _ rfl w16.heap.size tSl si _ 1 24 Try.underlying69 SI.out SZ.out SS.out SB.out rfl (by omega) (.slice none 0 0) 0 [] rfl (World.ownsRow_nil _ _ _ _) Ag (want.length) cg vs rfl HRXX.out ?_ ?_ ?_ ?_)
        · unfold maxLen; omega
        · omega
        · exact Nat.le_refl _
        intro v5 w17 own5 g5 loc5
        have HB17 := Lib.hid (show Below w16.heap.size w16 w17 from (Below.refl _ _).grown g5 (Nat.le_refl _) (fun k hk => by cases hk))
        have HO17 := Lib.hid own5
        clear own5 g5 loc5
        go_wp2_with (at_builtin; refine wpList_append_rdG _ (by rfl) (.tmp 132) (.tmp 134) _ rfl w16.heap.size tSl si _ 1 24 Try.underlying69 SI.out SZ.out SS.out SB.out rfl (by omega) v5 _ _ rfl (own_upG HO17.out (.cells #[.slice (some ⟨w12.heap.size, 0, none⟩) 1 1] tSl)) (some ⟨w17.heap.size, 0, none⟩) 1 1 [.slice (some ⟨w12.heap.size, 0, none⟩) 1 1] rfl (RdX.new w17 1 #[.slice (some ⟨w12.heap.size, 0, none⟩) 1 1] tSl rfl (by simp [Value.oneCell'])) ?_ ?_ ?_ ?_)
        · unfold maxLen; omega
        · omega
        · exact (HB17.out.alloc HB17.out.size _).size
        intro v6 w18 own6 g6 loc6
        have HB18 := Lib.hid ((HB17.out.alloc HB17.out.size (.cells #[.slice (some ⟨w12.heap.size, 0, none⟩) 1 1] tSl)).grown g6 (HB17.out.alloc HB17.out.size _).size (fun k hk => (HO17.out.lt k hk).1))
        have ho6 : w18.ownsRow w16.heap.size tSl 1 v6 (want.length + 1) (vs ++ [.slice (some ⟨w12.heap.size, 0, none⟩) [(⟨⟨#[102, 47, 122]⟩, ⟨#[122]⟩, false⟩ : Ch)].length 1]) := by
          have h := own6
          try rw [Nat.zero_add] at h
          try rw [List.nil_append] at h
          exact h
        obtain ⟨A18, c18, hv18, hk18⟩ := KpE.snoc HVS.out HVL.out HKC.out (Fr.of_below HB18.out hz16) ho6
        have hv19 : v6 = .slice A18 (want.length + 1) c18 := by rw [hv18, show (want ++ [[(⟨⟨#[102, 47, 122]⟩, ⟨#[122]⟩, false⟩ : Ch)]]).length = want.length + 1 by simp]
        rw [show (want ++ [[(⟨⟨#[102, 47, 122]⟩, ⟨#[122]⟩, false⟩ : Ch)]]).length = want.length + 1 by simp] at hk18
        have HSD3 := Lib.hid (sameD_gen Am A18 (want.length + 1) (want.length + 1) cm c18 _ _ (want ++ [[(⟨⟨#[102, 47, 122]⟩, ⟨#[122]⟩, false⟩ : Ch)]]) (want ++ [[(⟨⟨#[102, 47, 122]⟩, ⟨#[122]⟩, false⟩ : Ch)]]) w18 (HKM.out.keep (Fr.of_below HB18.out hz16)).rd hk18.rd true ⟨fun _ => rfl, fun _ => rfl⟩)
        unfold ScPost at HSD3
        have HB19 := Lib.hid (HB16.out.trans (HB18.out.mono hz16))
        subst hv19
        clear own6 g6 loc6 ho6 hv18 hk18
        go_wp2_with fail
        refine HSD3.out.mono ?_
        rintro e w19 ⟨rfl, q9, rfl⟩
        go_wp2
        go_ret
        exact ⟨rfl, below_drewN HB19.out q9⟩
end Go.Proofs.Ytgkenknplepmeaa
