/-
  WALK: the reader of package record: files.
-/
import Derived.Test.YtpghfefiifhbiaaGreatDoorRcF
namespace Go.Proofs.YtpghfefiifhbiaaGreatDoor
open Go.RowKit Go.Sort

theorem RdF_1 (w : World) (x t : ByteArray) (e : TypeId) : RdF (w.alloc (.cells #[.string x, .string t] e)) (w.heap.size + 1) (some ⟨w.heap.size, 0, none⟩) 1 1 [(x, t)] := by
  refine ⟨rfl, Nat.le_refl _, by unfold maxLen; omega, fun _ => ⟨w.heap.size, 0, rfl, by omega, fun j u hu => ?_⟩⟩
  rw [World.cell?_alloc_at _ _ _ _ rfl]
  match j with
  | 0 => simpa [fcells] using hu
  | 1 => simpa [fcells] using hu
  | j + 2 => simp [fcells] at hu
abbrev tFi : TypeId := 44
def FlRel (w : World) (b n : Nat) (st0 : St) (v5 v9 : Value) (wr : World) : Prop :=
  ∃ (k : Nat) (l : List F) (st : St), k ≤ n ∧ v9 = .int .i64 k ∧ wr.ownsRow w.heap.size tFi 2 v5 k (fcells l) ∧ In wr b st ∧ Upd w wr (One b) ∧ Sofar (st0.bind (manyO (flO nameB) k)) k l st ∧ (rest st).length ≤ (rest st0).length
def FsP (w : World) (b n : Nat) (st0 : St) (e : Ending) (w' : World) : Prop :=
  ∃ V l st, e = .returned V ∧ w'.ownsRow w.heap.size tFi 2 V n (fcells l) ∧ In w' b st ∧ Upd w w' (One b) ∧ Sofar (st0.bind (manyO (flO nameB) n)) n l st ∧ (rest st).length ≤ (rest st0).length
theorem idx_max (st : St) : max (Lib.indexByte (rest st) 32) 0 = ((nmT st).length : Int) := by
  rw [idx_up]
  unfold nmT
  split
  · exact Int.max_eq_left (by omega)
  · rfl

set_option maxRecDepth 100000 in
set_option maxHeartbeats 8000000 in
theorem files_any (B b n : Nat) (st0 : St) (w : World) (h : In w b st0) (hE : Env w) (hB : EnvB B) (hb : B ≤ b) (hn : n ≤ 1000) (hl : (rest st0).length ≤ 1000000) :
    Calls Tryz.prog 34 #[ptr b, .int .i64 n] w (FsP w b n st0) := by
  obtain ⟨i, hi, hz, hsz, hby⟩ := file_parts
  have HI := Lib.hid hi
  have HZ := Lib.hid hz
  have HS := Lib.hid hsz
  have HBY := Lib.hid hby
  have hbw : B ≤ w.heap.size := Nat.le_trans hb (Nat.le_of_lt h.lt)
  have hblt := h.lt
  have H := Lib.hid h
  have HE := Lib.hid hE
  have HB := Lib.hid hB
  clear h hE hB hi hz hsz hby
  unfold ptr
  go_enter Tryz.func34, Tryz.ntmps34
  go_wp2
  go_loopw [5, 9] (fun v5 v9 wr => FlRel w b n st0 v5 v9 wr) (fun _ v9 _ => n - (intOf v9).toNat)
  case atStart => exact ⟨0, [], st0, Nat.zero_le _, rfl, ⟨rfl, .inl ⟨rfl, rfl⟩⟩, H.out, Upd.refl _ _, ⟨rfl, by cases st0 <;> rfl, fun x hx => by cases st0 with | none => cases hx | some s => cases hx; rfl⟩, Nat.le_refl _⟩
  case round =>
    obtain ⟨k, l, st, hk, rfl, hown, hin, hu, hso, hrl⟩ := hrel
    have hlen : l.length = k := hso.1
    have HO := Lib.hid hown
    have HU := Lib.hid hu
    have HSO := Lib.hid hso
    have hwr : w.heap.size ≤ wr.heap.size := hu.size
    by_cases hlt : k < n
    · have hkz : (k : Int) < (n : Int) := by omega
      have HX := Lib.hid (expect_any b 32 st wr hin)
      unfold ptr at HX
      clear hown hu hso hin
      go_wp2_with fail
      refine HX.out.mono ?_
      rintro e w1 ⟨rfl, hi1, hu1⟩
      have HI1 := Lib.hid hi1
      have HU1 := Lib.hid (HU.out.two hu1)
      have HUA := Lib.hid hu1
      have c1 := hi1.cell0
      have f1 := hi1.free 0
      have hs1 : st.bind (expO 32) = s1T st := rfl
      rw [hs1] at c1 HI1
      have HMX := Lib.hid (idx_max (s1T st))
      clear hi1 hu1 HX hs1
      go_wp2_with fail
      refine (Tryz.strings_IndexByte (ba (rest (s1T st))) 32 w1).mono ?_
      rintro e w2 ⟨rfl, rfl⟩
      rw [ba_data, show (32 : Int).toNat.toUInt8 = 32 from rfl]
      have hnl := nmT_len (s1T st)
      have HTK := Lib.hid ((ba_take (rest (s1T st)) (nmT (s1T st)).length).trans (by rw [nmT_take]))
      have HDR := Lib.hid (ba_drop (rest (s1T st)) (nmT (s1T st)).length)
      generalize Lib.indexByte (rest (s1T st)) 32 = x at *
      obtain ⟨en, hen⟩ : ∃ en, en = (nmT (s1T st)).length := ⟨_, rfl⟩
      rw [← hen] at HMX HTK HDR hnl
      have hx := HMX.out
      have hle : (en : Int) ≤ ((ba (rest (s1T st))).size : Int) := by rw [ba_size]; omega
      have hb2 : b < w2.heap.size := HI1.out.lt
      have HEN := Lib.hid hen
      have hF0 : w2.heap.size ≠ b := by omega
      have HFBW := Lib.hid (show wr.heap.size ≤ w2.heap.size from HUA.out.size)
      clear hen hnl HMX
      go_wp2_with fail
      rw [HTK.out, HDR.out]
      clear hx
      -- the world at the call of text
      have hi2 : In (w2.setCell ⟨b, 0, none⟩ (.string (ba ((rest (s1T st)).drop en)))) b (s2F st) := by
        have hd : s2F st = (s1T st).map fun s => s.drop en := by rw [HEN.out]; rfl
        rw [hd]
        have h1 := HI1.out
        revert h1
        cases s1T st with
        | none =>
          intro h1
          have e1 : ba ((rest none).drop en) = ⟨#[]⟩ := by simp [rest, ba]
          rw [e1]
          exact h1.set_none
        | some s => intro h1; exact h1.set
      have hu2 := HU1.out.setOne 0 (.string (ba ((rest (s1T st)).drop en)))
      have huA := HUA.out.setOne 0 (.string (ba ((rest (s1T st)).drop en)))
      have hsz2 : (w2.setCell ⟨b, 0, none⟩ (.string (ba ((rest (s1T st)).drop en)))).heap.size = w2.heap.size := by simp [World.setCell]
      obtain ⟨fb, hfb⟩ : ∃ fb, fb = w2.heap.size := ⟨_, rfl⟩
      rw [← hfb] at hsz2 hF0 hb2 HFBW ⊢
      clear hfb c1 f1 HI1 HU1 HUA hle HTK HDR
      generalize w2.setCell ⟨b, 0, none⟩ (.string (ba ((rest (s1T st)).drop en))) = w3 at *
      have hF := Blk.new w3 tFi #[.string (ba (nmT (s1T st))), .string ⟨#[]⟩]
      rw [hsz2] at hF
      have hb3 : Below w3.heap.size w3 (w3.alloc (.cells #[.string (ba (nmT (s1T st))), .string ⟨#[]⟩] tFi)) := (Below.refl _ _).alloc (Nat.le_refl _) _
      have hi3 := hi2.upd hb3
      have hu3 := hu2.two (Upd.of_below hb3 (One b))
      have huB := huA.two (Upd.of_below hb3 (One b))
      clear hb3 hi2 hu2 huA
      generalize w3.alloc (.cells #[.string (ba (nmT (s1T st))), .string ⟨#[]⟩] tFi) = w4 at *
      have HTX := Lib.hid (textR_any B b 20 (s2F st) w4 hi3 (env_upd HE.out HB.out hb hbw hu3) HB.out hb (by omega) (Nat.le_trans (rest_s2 st) (Nat.le_trans hrl hl)))
      unfold ptr at HTX
      have HF := Lib.hid hF
      have HU3 := Lib.hid hu3
      have HUB := Lib.hid huB
      clear hF hi3 hu3 huB hsz2
      have ho3 : txS 20 (s2F st) = o3F st := rfl
      rw [ho3] at HTX
      clear ho3
      refine HTX.out.mono ?_
      rintro e w5 ⟨rfl, hi5, hu5⟩
      have hF5 := HF.out.upd hu5 hF0
      have d0 := hF5.cell 0
      have d1 := hF5.cell 1
      have g0 := hF5.free 0
      have g1 := hF5.free 1
      have hF6 := hF5.set 1 (.string (tOf (o3F st)))
      have hi6 : In (w5.setCell ⟨fb, 1, none⟩ (.string (tOf (o3F st)))) b (sOf (o3F st)) := Blk.other hi5 (Ne.symm hF0) _
      have hu5' := HUB.out.two hu5
      have hu6 : Upd wr (w5.setCell ⟨fb, 1, none⟩ (.string (tOf (o3F st)))) (fun k => k = b ∨ k = fb) := (hu5'.mono (fun _ _ h => .inl h)).set (.inr (.inr rfl)) _
      have hwfb : wr.heap.size ≤ fb := HFBW.out
      have hu7 : Upd wr (w5.setCell ⟨fb, 1, none⟩ (.string (tOf (o3F st)))) (One b) := ⟨hu6.os, hu6.tape, hu6.output, hu6.size, fun k hk hn => hu6.block k hk (by rintro (h | h); exact hn h; omega)⟩
      have HF6 := Lib.hid hF6
      have HI6 := Lib.hid hi6
      have HU7 := Lib.hid hu7
      clear HTX HF HUB hi5 hu5 hF5 hF6 hi6 hu5' hu6 hu7
      go_wp2_with fail
      clear d0 d1 g0 g1
      generalize w5.setCell ⟨fb, 1, none⟩ (.string (tOf (o3F st))) = w6 at *
      have hnb : (ba (nmT (s1T st))).size ≤ 1000000 := by rw [ba_size]; exact Nat.le_trans (nmT_len _) (Nat.le_trans (rest_bind_exp 32 st) (Nat.le_trans hrl hl))
      have hs4 : s4F st = if faultN (ba (nmT (s1T st))) (tOf (o3F st)) = 0 then sOf (o3F st) else none := rfl
      have hfl : flF st = (ba (nmT (s1T st)), tOf (o3F st)) := rfl
      have hnx := HSO.out.next
      rw [hfl] at hnx
      have HNX := Lib.hid hnx
      have HR4 := Lib.hid (Nat.le_trans (rest_s4 st) hrl)
      clear hfl hnx HSO HEN
      revert hnb hs4 HF6 HI6 HNX
      generalize ba (nmT (s1T st)) = fx
      generalize tOf (o3F st) = ft
      generalize sOf (o3F st) = st6
      generalize s4F st = st4 at *
      intro HF6 HI6 hnb hs4 HNX
      have HCK := Lib.hid (check_any fx ft w6 hnb)
      refine HCK.out.mono ?_
      rintro e w7 ⟨rfl, hb7⟩
      have hi7 := HI6.out.upd hb7
      have hF7 := (hb7.block fb HF6.out.lt).trans HF6.out
      have hu7 := HU7.out.two (Upd.of_below hb7 (One b))
      have HI7 := Lib.hid hi7
      have HF7 := Lib.hid (show Blk w7 fb tFi #[.string fx, .string ft] from hF7)
      have HU7' := Lib.hid hu7
      clear hb7 hi7 hF7 hu7 HF6 HI6 HU7 HCK
      have HS4 := Lib.hid hs4
      clear hs4
      have HERR := Lib.hid (fun hf : faultN fx ft ≠ 0 => (show errV (faultN fx ft) = .iface 66 (.int .i64 (faultN fx ft)) from if_neg hf))
      by_cases hf0 : faultN fx ft = 0
      · rw [hf0, show errV 0 = .nilIface from if_pos rfl]
        have e4 := HS4.out
        rw [if_pos hf0] at e4
        have hHI := HI7.out
        rw [← e4] at hHI
        have HI8 := Lib.hid hHI
        have HF8 := HF7
        have HU8 := HU7'
        clear hf0 e4 hHI HS4 HI7 HF7 HU7' HERR
        generalize w7 = w8 at *
        have d0 := HF8.out.cell 0
        have d1 := HF8.out.cell 1
        have hown8 := ownsRow_kept (w' := w8) HO.out (fun g hg => HU8.out.block g (HO.out.lt g hg).2 (fun e => by have e1 : g = b := e; have := (HO.out.lt g hg).1; omega))
        have hown1 := hown8.alloc (.cells #[.string fx, .string ft] tFi)
        have HO1 := Lib.hid hown1
        have H1 := Lib.hid (RdF_1 w8 fx ft tFi)
        have hwsz : w.heap.size ≤ w8.heap.size := Nat.le_trans hwr HU8.out.size
        have hsz1 : w.heap.size ≤ (w8.alloc (.cells #[.string fx, .string ft] tFi)).heap.size := by simp; omega
        clear hown8 hown1
        go_wp2_with (at_builtin; refine wpList_append_files _ rfl (.tmp 43) (.tmp 45) _ rfl w.heap.size tFi i _ 32 Tryz.underlying25 HI.out HZ.out HS.out HBY.out rfl _ _ _ rfl HO1.out _ _ 1 1 [(fx, ft)] rfl H1.out ?_ ?_ ?_ ?_)
        · unfold maxLen; omega
        · omega
        · exact hsz1
        intro v2 w9 hown2 hg2
        have HV := Lib.hid hown2
        have HG := Lib.hid hg2
        clear hown2 hg2 H1 d0 d1
        go_wp2
        go_roundw
        case rel =>
          have hrow : ∀ g, u5.ownBlock = some g → w.heap.size ≤ g := fun g hg => (HO.out.lt g hg).1
          have hblk : ∀ j, j < w8.heap.size → u5.ownBlock ≠ some j → w9.heap[j]? = w8.heap[j]? := fun j hj hr => (HG.out.block j (by simp; omega) (fun e => hr e.symm)).trans (Below.heap_alloc _ _ _ hj)
          refine ⟨k + 1, _, _, by omega, by go_num, HV.out, ?_, ?_, HNX.out, HR4.out⟩
          · exact (hblk b HI8.out.lt (fun e => by have := hrow b e; omega)).trans HI8.out
          · have h1 := HU.out.two HU8.out
            exact ⟨HG.out.os.trans h1.os, HG.out.tape.trans h1.tape, HG.out.output.trans h1.output, Nat.le_trans (Nat.le_trans h1.size (by simp)) HG.out.size, fun j hj hn2 => (hblk j (Nat.lt_of_lt_of_le hj h1.size) (fun e => by have := hrow j e; omega)).trans (h1.block j hj hn2)⟩
        case measure => simp [intOf]; omega
      · rw [HERR.out hf0]
        have e4 := HS4.out
        rw [if_neg hf0] at e4
        have HFL := Lib.hid (fail_any b st6 w7 HI7.out)
        unfold ptr at HFL
        clear hf0 HS4 HERR
        subst e4
        go_wp2_with fail
        refine HFL.out.mono ?_
        rintro e w8 ⟨rfl, hi8, hu8⟩
        have HI8 := Lib.hid hi8
        have HF8 := Lib.hid (HF7.out.upd hu8 hF0)
        have HU8 := Lib.hid (HU7'.out.two hu8)
        clear hi8 hu8 HFL HI7 HF7 HU7'
        have d0 := HF8.out.cell 0
        have d1 := HF8.out.cell 1
        have hown8 := ownsRow_kept (w' := w8) HO.out (fun g hg => HU8.out.block g (HO.out.lt g hg).2 (fun e => by have e1 : g = b := e; have := (HO.out.lt g hg).1; omega))
        have hown1 := hown8.alloc (.cells #[.string fx, .string ft] tFi)
        have HO1 := Lib.hid hown1
        have H1 := Lib.hid (RdF_1 w8 fx ft tFi)
        have hwsz : w.heap.size ≤ w8.heap.size := Nat.le_trans hwr HU8.out.size
        have hsz1 : w.heap.size ≤ (w8.alloc (.cells #[.string fx, .string ft] tFi)).heap.size := by simp; omega
        clear hown8 hown1
        go_wp2_with (at_builtin; refine wpList_append_files _ rfl (.tmp 43) (.tmp 45) _ rfl w.heap.size tFi i _ 32 Tryz.underlying25 HI.out HZ.out HS.out HBY.out rfl _ _ _ rfl HO1.out _ _ 1 1 [(fx, ft)] rfl H1.out ?_ ?_ ?_ ?_)
        · unfold maxLen; omega
        · omega
        · exact hsz1
        intro v2 w9 hown2 hg2
        have HV := Lib.hid hown2
        have HG := Lib.hid hg2
        clear hown2 hg2 H1 d0 d1
        go_wp2
        go_roundw
        case rel =>
          have hrow : ∀ g, u5.ownBlock = some g → w.heap.size ≤ g := fun g hg => (HO.out.lt g hg).1
          have hblk : ∀ j, j < w8.heap.size → u5.ownBlock ≠ some j → w9.heap[j]? = w8.heap[j]? := fun j hj hr => (HG.out.block j (by simp; omega) (fun e => hr e.symm)).trans (Below.heap_alloc _ _ _ hj)
          refine ⟨k + 1, _, _, by omega, by go_num, HV.out, ?_, ?_, HNX.out, HR4.out⟩
          · exact (hblk b HI8.out.lt (fun e => by have := hrow b e; omega)).trans HI8.out
          · have h1 := HU.out.two HU8.out
            exact ⟨HG.out.os.trans h1.os, HG.out.tape.trans h1.tape, HG.out.output.trans h1.output, Nat.le_trans (Nat.le_trans h1.size (by simp)) HG.out.size, fun j hj hn2 => (hblk j (Nat.lt_of_lt_of_le hj h1.size) (fun e => by have := hrow j e; omega)).trans (h1.block j hj hn2)⟩
        case measure => simp [intOf]; omega
    · obtain rfl : k = n := by omega
      go_wp2
      go_ret
      exact ⟨_, l, st, rfl, HO.out, hin, HU.out, HSO.out, hrl⟩
end Go.Proofs.YtpghfefiifhbiaaGreatDoor
