/-
  THE WALK OF hammerpondtop.TopDisk: for all lists of writes and every number the call returns true, and nothing that was there has turned.
-/
import Derived.Test.YtocodapegeajoacTd
import Derived.StillTailTactics
namespace Go.Proofs.Ytocodapegeajoac
open Go.RowKit

/-- The disk of the call: four sectors, good. -/
def At4 (w0 : World) (D : Dk) (b : Nat) (wr : World) : Prop := (∃ V, DkAt wr w0.heap.size (w0.heap.size + 1) w0.heap.size V D) ∧ D.n = 4 ∧ Good D ∧ Low D b ∧ Below w0.heap.size w0 wr
def L1Rel (w0 : World) (n : Nat) (i : Value) (wr : World) : Prop := ∃ (k : Nat) (D : Dk), k ≤ n ∧ i = .int .i64 k ∧ At4 w0 D k wr
def L2Rel (w0 : World) (D : Dk) (T : Nat) (t : TypeId) (i : Value) (wr : World) : Prop := ∃ (k : Nat) (f : Nat → ByteArray), k ≤ 4 ∧ i = .int .i64 k ∧ At4 w0 D 0 wr ∧ Blk wr T t (arr4 f) ∧ ∀ j, j < k → f j = nowB (D.sec j)
def L3Rel (w0 : World) (keep : Nat) (T : Nat) (t : TypeId) (n : Nat) (q i : Value) (wr : World) : Prop := ∃ (k : Nat) (D : Dk) (f : Nat → ByteArray), k ≤ n ∧ i = .int .i64 k ∧ q = .int .i64 D.next ∧ At4 w0 D k wr ∧ Blk wr T t (arr4 f) ∧ ∀ j, j < 4 → f j = stay keep D j
def L4Rel (w0 : World) (D : Dk) (T : Nat) (t : TypeId) (i : Value) (wr : World) : Prop := ∃ (k : Nat) (f : Nat → ByteArray), k ≤ 4 ∧ i = .int .i64 k ∧ At4 w0 D 0 wr ∧ Blk wr T t (arr4 f) ∧ ∀ j, j < 4 → f j = nowB (D.sec j)

abbrev tA4 : TypeId := 36
theorem At4.keep {w0 w w' : World} {D : Dk} {b : Nat} (h : At4 w0 D b w) (hb : Below w.heap.size w w') : At4 w0 D b w' := by
  obtain ⟨⟨V, hd⟩, hn, hg, hl, hbl⟩ := h
  exact ⟨⟨V, hd.keep (fun g _ hg => hb.block g hg)⟩, hn, hg, hl, hbl.trans (hb.mono hbl.size)⟩
theorem At4.setT {w0 w : World} {D : Dk} {b T i : Nat} {cs : Array Value} (h : At4 w0 D b w) (hT : Blk w T tA4 cs) (h0 : w0.heap.size ≤ T) (v : Value) : At4 w0 D b (w.setCell ⟨T, i, none⟩ v) := by
  obtain ⟨⟨V, hd⟩, hn, hg, hl, hbl⟩ := h
  exact ⟨⟨V, hd.other hT (by decide) (by decide) (by decide) (fun g _ hne => Below.heap_setCell _ _ _ _ hne)⟩, hn, hg, hl, hbl.setCell (by simpa using h0) v⟩
theorem At4.low {w0 w : World} {D : Dk} {b b' : Nat} (h : At4 w0 D b w) (hb : b ≤ b') : At4 w0 D b' w := ⟨h.1, h.2.1, h.2.2.1, h.2.2.2.1.mono hb, h.2.2.2.2⟩
theorem At4.sz {w0 w : World} {D : Dk} {b : Nat} (h : At4 w0 D b w) : w0.heap.size ≤ w.heap.size := h.2.2.2.2.size
/-- Read of the disk of the call. -/
theorem At4.read {w0 w : World} {D : Dk} {b k : Nat} (h : At4 w0 D b w) (hk : k < 4) :
    Calls Try.prog 13 #[ptr (w0.heap.size + 1), .int .i64 k] w fun e w' => e = .returned (.tuple #[.string (nowB (D.sec k)), .nilIface]) ∧ Below w.heap.size w w' := by
  obtain ⟨⟨V, hd⟩, hn, hg, _, _⟩ := h
  have := read_any w0.heap.size (w0.heap.size + 1) w0.heap.size V D k w hd
  rw [hg.read (by omega)] at this
  exact this

set_option maxHeartbeats 4000000 in
set_option maxRecDepth 100000 in
theorem topDisk_any (A1 A2 : Option Addr) (n1 c1 n2 c2 : Nat) (l1 l2 : List De) (keep : Nat) (w : World) (h1 : RdD w w.heap.size A1 n1 c1 l1) (h2 : RdD w w.heap.size A2 n2 c2 l2) (hkp : keep < 2 ^ 64) :
    Calls Try.prog 3 #[.slice A1 n1 c1, .slice A2 n2 c2, .int .u64 keep] w fun e w' => e = .returned (.bool true) ∧ Below w.heap.size w w' := by
  have HR1 := Lib.hid h1
  have HR2 := Lib.hid h2
  have HL1 := Lib.hid h1.1
  have HL2 := Lib.hid h2.1
  have hm1 := h1.2.2.1
  have hm2 := h2.2.2.1
  have hc1 := h1.2.1
  have hc2 := h2.2.1
  unfold maxLen at hm1 hm2
  clear h1 h2
  have HNew := Lib.hid (show Calls Try.prog 8 #[.int .i64 4] w fun e w' => e = .returned (.tuple #[ptr (w.heap.size + 1), .nilIface]) ∧ DkAt w' w.heap.size (w.heap.size + 1) w.heap.size (fun _ => .slice none 0 0) (newD 4) ∧ Below w.heap.size w w' from new_good 4 w (by omega) (by omega))
  go_enter Try.func3, Try.ntmps3
  go_wp2_with fail
  refine HNew.out.mono ?_
  rintro e w1 ⟨rfl, hd1, hb1⟩
  have hg0 : Good (newD 4) := ⟨rfl, rfl⟩
  have HD1 := Lib.hid hd1
  have HB1 := Lib.hid hb1
  clear hd1 hb1
  have HFl := Lib.hid (flush_any w.heap.size (w.heap.size + 1) w.heap.size _ (newD 4) w1 HD1.out hg0.range (fun i _ => Nat.zero_le _))
  rw [hg0.flush] at HFl
  go_wp2_with fail
  refine HFl.out.mono ?_
  rintro e w2 ⟨rfl, ⟨V2, hd2⟩, hb2, _⟩
  rw [show erV (settleR allK (newD 4), (0 : Int)).2 = .nilIface from rfl]
  have HA2 := Lib.hid (show At4 w (settleR allK (newD 4)) 0 w2 from ⟨⟨V2, hd2⟩, rfl, hg0.settled _, Low.settled _ _ _, HB1.out.trans hb2⟩)
  have HSe := Lib.hid (sectors_any w.heap.size (w.heap.size + 1) w.heap.size V2 _ w2 hd2)
  clear hd2 hb2 HFl HNew HD1 HB1 hg0
  go_wp2_with fail
  refine HSe.out.mono ?_
  rintro e w2' ⟨rfl, rfl⟩
  rw [show (((settleR allK (newD 4), (0 : Int)).1.n : Nat) : Int) = 4 from rfl]
  go_wp2_with fail
  refine (lightDeeds_any A1 n1 c1 l1 40 w.heap.size w2 (HR1.out.below HA2.out.2.2.2.2) (by omega)).mono ?_
  rintro e w2' ⟨b1, rfl, hb1, rfl⟩
  cases b1 with
  | false =>
    go_wp2
    go_ret
    exact ⟨rfl, HA2.out.2.2.2.2⟩
  | true =>
  have HLi1 := Lib.hid (hb1 rfl)
  clear hb1
  go_wp2_with fail
  refine (lightDeeds_any A2 n2 c2 l2 60 w.heap.size w2 (HR2.out.below HA2.out.2.2.2.2) (by omega)).mono ?_
  rintro e w2' ⟨b2, rfl, hb2, rfl⟩
  cases b2 with
  | false =>
    go_wp2
    go_ret
    exact ⟨rfl, HA2.out.2.2.2.2⟩
  | true =>
  have HLi2 := Lib.hid (hb2 rfl)
  clear hb2
  have hn1 : n1 ≤ 40 := by have := HLi1.out.1; have := HL1.out; omega
  have hn2 : n2 ≤ 60 := by have := HLi2.out.1; have := HL2.out; omega
  go_wp2
  go_loopw [9] (fun i wr => L1Rel w n1 i wr) (fun i _ => n1 - (intOf i).toNat)
  case atStart => exact ⟨0, _, Nat.zero_le _, rfl, HA2.out⟩
  case round =>
    obtain ⟨k, D, hk, rfl, hat⟩ := hrel
    clear HA2 HSe
    by_cases hlt : k < n1
    · obtain ⟨f, hf⟩ : ∃ f, l1[k]? = some f := ⟨_, List.getElem?_eq_getElem (by have := HL1.out; omega)⟩
      have hfm : f ∈ l1 := List.mem_of_getElem? hf
      have hfs := (HLi1.out.2 f hfm).1
      obtain ⟨⟨V, hd⟩, hn, hg, hlo, hb⟩ := hat
      obtain ⟨b', off, rfl, hbb, _, q1, _, q3, _, _, _, hra, _⟩ := (HR1.out.below hb).at_ hf
      have hki : (k : Int) < (n1 : Int) := by omega
      have HW := Lib.hid (wcall_any w.heap.size (w.heap.size + 1) w.heap.size k V D f.a f.s wr.drew (hd.keep (fun _ _ _ => rfl)) hg hlo (by omega) (by omega))
      have HG := Lib.hid hg
      have HLo := Lib.hid hlo
      have HN := Lib.hid hn
      have HD := Lib.hid (show ∃ V, DkAt wr.drew w.heap.size (w.heap.size + 1) w.heap.size V D from ⟨V, hd.keep (fun _ _ _ => rfl)⟩)
      have HB := Lib.hid (show Below w.heap.size w wr.drew from hb.drew)
      clear hf hfm hd hn hg hlo hb
      go_wp2_with fail
      go_still_tail 11, (by kernel_rfl)
      change wpList _ _ _ _ _ wr.drew
      generalize wr.drew = w3 at *
      go_wp2_with fail
      refine HW.out.mono ?_
      rintro e w4 (⟨rfl, _, rfl⟩ | ⟨a, ha, hak, hss, rfl, hd4, hb4, _⟩)
      · go_wp2
        go_roundw
        case rel => exact ⟨k + 1, D, by omega, by go_num, HD.out, HN.out, HG.out, HLo.out.mono (by omega), HB.out⟩
        case measure => simp [intOf]; omega
      · have HD4 := Lib.hid hd4
        have HB4 := Lib.hid (HB.out.trans hb4)
        have HAK := Lib.hid hak
        clear hd4 hb4 ha hak
        go_wp2
        go_roundw
        case rel => exact ⟨k + 1, putD D a f.s, by omega, by go_num, HD4.out, HN.out, HG.out.put _ _, (HLo.out.put (by omega) HAK.out _).1, HB4.out⟩
        case measure => simp [intOf]; omega
    · have hki : decide ((k : Int) < (n1 : Int)) = false := decide_eq_false (by omega)
      obtain ⟨⟨V, hd⟩, hn, hg, hlo, hb⟩ := hat
      have HFl := Lib.hid (flush_any w.heap.size (w.heap.size + 1) w.heap.size V D wr hd hg.range (fun i hi => by have := hlo.len i hi; omega))
      rw [hg.flush] at HFl
      have HG := Lib.hid hg
      have HN := Lib.hid hn
      have HB := Lib.hid hb
      clear hd hn hg hlo hb
      go_wp2_with fail
      refine HFl.out.mono ?_
      rintro e w3 ⟨rfl, hd3, hb3, _⟩
      rw [show erV (settleR allK D, (0 : Int)).2 = .nilIface from rfl]
      have HA3 := Lib.hid (show At4 w (settleR allK D) 0 w3 from ⟨hd3, HN.out, HG.out.settled _, Low.settled _ _ _, HB.out.trans hb3⟩)
      clear hd3 hb3 HFl HB HG HN
      generalize settleR allK D = D3 at *
      have hs3 := HA3.out.sz
      have HT0 := Lib.hid (show At4 w D3 0 (w3.alloc (.cells (arr4 (fun _ => ⟨#[]⟩)) tA4)) ∧ Blk (w3.alloc (.cells (arr4 (fun _ => ⟨#[]⟩)) tA4)) w3.heap.size tA4 (arr4 (fun _ => ⟨#[]⟩)) from ⟨HA3.out.keep ((Below.refl _ _).alloc (Nat.le_refl _) _), Blk.new _ _ _⟩)
      obtain ⟨T, hT⟩ : ∃ T, T = w3.heap.size := ⟨_, rfl⟩
      rw [← hT] at HT0 hs3
      go_wp2_with fail
      rw [← hT]
      clear hT
      go_loopw [11] (fun i wr => L2Rel w D3 T tA4 i wr) (fun i _ => 4 - (intOf i).toNat)
      case atStart => exact ⟨0, fun _ => ⟨#[]⟩, Nat.zero_le _, rfl, HT0.out.1, HT0.out.2, fun j h => by omega⟩
      case round =>
        clear HT0 HA3
        rename World => w4
        obtain ⟨k2, f, hk2, rfl, hat, hbk, hff⟩ := hrel
        by_cases hlt2 : k2 < 4
        · have hki2 : (k2 : Int) < 4 := by omega
          have HRd := Lib.hid (hat.read hlt2)
          have HAt := Lib.hid hat
          have HBk := Lib.hid hbk
          have HFF := Lib.hid hff
          clear hat hbk hff
          go_wp2_with fail
          refine HRd.out.mono ?_
          rintro e w5 ⟨rfl, hb5⟩
          have hbk5 : Blk w5 T tA4 (arr4 f) := (hb5.block T HBk.out.lt).trans HBk.out
          have c5 : w5.cell? ⟨T, k2, none⟩ = some (.string (f k2)) := (hbk5.cell k2).trans (arr4_at f k2 hlt2)
          have f5 := hbk5.free k2
          have hat5 := HAt.out.keep hb5
          have hset := hbk5.set k2 (.string (nowB (D3.sec k2)))
          rw [arr4_set f k2 hlt2] at hset
          have HS := Lib.hid hset
          have HA5 := Lib.hid (hat5.setT (i := k2) hbk5 hs3 (.string (nowB (D3.sec k2))))
          clear hb5 hbk5 hat5 hset
          go_wp2
          go_roundw
          case rel => exact ⟨k2 + 1, _, by omega, by go_num, HA5.out, HS.out, fun j hj => by
            unfold upf
            split
            · rename_i e; rw [e]
            · exact HFF.out j (by omega)⟩
          case measure => simp [intOf]; omega
        · have hki2 : decide ((k2 : Int) < 4) = false := decide_eq_false (by omega)
          have hnx0 : D3.next = 0 := by have := hat.2.2.2.1.next; omega
          have hst3 : ∀ j, j < 4 → f j = stay keep D3 j := fun j hj => by
            rw [hff j (by omega)]
            have := hat.2.2.2.1.len j (by rw [hat.2.1]; exact hj)
            have hws : (D3.sec j).ws = [] := List.eq_nil_of_length_eq_zero (by omega)
            unfold nowB stay
            rw [hws]
            rfl
          have HI0 := Lib.hid (show L3Rel w keep T tA4 n2 (.int .i64 0) (.int .i64 0) w4 from ⟨0, D3, f, Nat.zero_le _, rfl, by rw [hnx0]; rfl, hat, hbk, hst3⟩)
          clear hat hbk hff hnx0 hst3
          go_wp2
          go_loopw [14, 15] (fun q i wr => L3Rel w keep T tA4 n2 q i wr) (fun _ i _ => n2 - (intOf i).toNat)
          case atStart => exact HI0.out
          case round =>
            clear HI0
            rename World => w6
            obtain ⟨k3, D6, f6, hk3, rfl, rfl, hat, hbk, hff⟩ := hrel
            by_cases hlt3 : k3 < n2
            · obtain ⟨g, hf⟩ : ∃ g, l2[k3]? = some g := ⟨_, List.getElem?_eq_getElem (by have := HL2.out; omega)⟩
              have hfm : g ∈ l2 := List.mem_of_getElem? hf
              have hfs := (HLi2.out.2 g hfm).1
              have hat' := hat
              obtain ⟨⟨V, hd⟩, hn, hg, hlo, hb⟩ := hat'
              obtain ⟨b', off, rfl, hbb, _, q1, _, q3, _, _, _, hra, _⟩ := (HR2.out.below hb).at_ hf
              have hki3 : (k3 : Int) < (n2 : Int) := by omega
              have hnx : D6.next < 64 := hd.nx
              have HW := Lib.hid (wcall_any w.heap.size (w.heap.size + 1) w.heap.size k3 V D6 g.a g.s w6.drew (hd.keep (fun _ _ _ => rfl)) hg hlo (by omega) (by omega))
              have HG := Lib.hid hg
              have HLo := Lib.hid hlo
              have HN := Lib.hid hn
              have HAt := Lib.hid (show At4 w D6 k3 w6.drew from hat.keep ((Below.refl _ _).drew))
              have HB := Lib.hid (show Below w.heap.size w w6.drew from hb.drew)
              have HBk := Lib.hid (show Blk w6.drew T tA4 (arr4 f6) from hbk)
              have HFF := Lib.hid hff
              clear hf hfm hd hn hg hlo hb hat hbk hff
              go_wp2_with fail
              go_still_tail 11, (by kernel_rfl)
              change wpList _ _ _ _ _ w6.drew
              have q3' : w6.drew.cell? ⟨b', off + k3 * 6 + 3, none⟩ = some (.int .i64 g.a) := q3
              generalize w6.drew = w7 at *
              clear q1 q3
              go_wp2_with fail
              refine HW.out.mono ?_
              rintro e w8 (⟨rfl, _, rfl⟩ | ⟨a, ha, hak, hss, rfl, hd8, hb8, hy8⟩)
              · rw [show erV 1 = .iface 70 (.int .i64 1) from rfl]
                go_wp2
                go_roundw
                case rel => exact ⟨k3 + 1, D6, f6, by omega, by go_num, rfl, HAt.out.low (by omega), HBk.out, HFF.out⟩
                case measure => simp [intOf]; omega
              · have ha4 : a < 4 := by have := HN.out; omega
                have hlp := HLo.out.put (show k3 < 63 by omega) hak g.s
                have hat8 : At4 w (putD D6 a g.s) (k3 + 1) w8 := ⟨hd8, HN.out, HG.out.put _ _, hlp.1, HB.out.trans hb8⟩
                have hbk8 : Blk w8 T tA4 (arr4 f6) := hy8 T tA4 _ HBk.out (by decide) (by decide) (by decide)
                have q8 : w8.cell? ⟨b', off + k3 * 6 + 3, none⟩ = some (.int .i64 a) := by rw [hb8.cell (p := ⟨b', off + k3 * 6 + 3, none⟩) hbb, q3', ha]
                have hbt := bit_test keep D6.next hkp
                have HNX := Lib.hid hlp.2
                have HA8 := Lib.hid hat8
                have HB8 := Lib.hid hbk8
                have hstp := fun j => stay_put keep D6 a g.s j
                have HST := Lib.hid hstp
                have hb8s := (HB.out.trans hb8).size
                cases htb : keep.testBit D6.next with
                | false =>
                  rw [htb] at hbt
                  have HTB := Lib.hid htb
                  clear hd8 hb8 hy8 hat8 hbk8 hlp ha hak htb hstp q8
                  go_wp2
                  go_roundw
                  case rel => exact ⟨k3 + 1, putD D6 a g.s, f6, by omega, by go_num, by rw [HNX.out]; go_num, HA8.out, HB8.out, fun j hj => by rw [HST.out, if_neg (fun h => by rw [HTB.out] at h; cases h.2)]; exact HFF.out j hj⟩
                  case measure => simp [intOf]; omega
                | true =>
                  rw [htb] at hbt
                  have HTB := Lib.hid htb
                  have HRd := Lib.hid (hat8.read ha4)
                  rw [now_put] at HRd
                  clear hd8 hb8 hy8 hat8 hbk8 hlp ha hak htb hstp
                  go_wp2_with fail
                  refine HRd.out.mono ?_
                  rintro e w9 ⟨rfl, hb9⟩
                  have q9 : w9.cell? ⟨b', off + k3 * 6 + 3, none⟩ = some (.int .i64 a) := by rw [hb9.cell (p := ⟨b', off + k3 * 6 + 3, none⟩) (by show b' < w8.heap.size; omega)]; exact q8
                  have hbk9 : Blk w9 T tA4 (arr4 f6) := (hb9.block T HB8.out.lt).trans HB8.out
                  have c9 : w9.cell? ⟨T, a, none⟩ = some (.string (f6 a)) := (hbk9.cell a).trans (arr4_at f6 a ha4)
                  have f9 := hbk9.free a
                  have hset := hbk9.set a (.string (padB g.s))
                  rw [arr4_set f6 a ha4] at hset
                  have HS := Lib.hid hset
                  have HA9 := Lib.hid ((HA8.out.keep hb9).setT (i := a) hbk9 hs3 (.string (padB g.s)))
                  have hai : (a : Int) < 4 := by omega
                  clear hb9 hbk9 hset q8
                  go_wp2
                  go_roundw
                  case rel => exact ⟨k3 + 1, putD D6 a g.s, upf f6 a (padB g.s), by omega, by go_num, by rw [HNX.out]; go_num, HA9.out, HS.out, fun j hj => by
                    rw [HST.out]
                    unfold upf
                    by_cases e : j = a
                    · rw [if_pos e, if_pos ⟨e, HTB.out⟩]
                    · rw [if_neg e, if_neg (fun h => e h.1)]; exact HFF.out j hj⟩
                  case measure => simp [intOf]; omega
            · have hki3 : decide ((k3 : Int) < (n2 : Int)) = false := decide_eq_false (by omega)
              obtain ⟨⟨V, hd⟩, hn, hg, hlo, hb⟩ := hat
              have HRs := Lib.hid (restart_any w.heap.size (w.heap.size + 1) w.heap.size V D6 keep w6 hd hkp (fun i hi => by have := hlo.len i hi; omega))
              have HN := Lib.hid hn
              have HB := Lib.hid hb
              have HBk := Lib.hid hbk
              have HFF := Lib.hid hff
              clear hd hn hg hlo hb hbk hff
              go_wp2_with fail
              refine HRs.out.mono ?_
              rintro e w7 ⟨rfl, hd7, hb7, hy7⟩
              have HI4 := Lib.hid (show L4Rel w (restartR keep D6) T tA4 (.int .i64 0) w7 from ⟨0, f6, Nat.zero_le _, rfl, ⟨hd7, HN.out, good_restart _ _, ⟨Nat.zero_le _, fun i _ x hx => (by cases hx), fun i _ => Nat.zero_le _⟩, HB.out.trans hb7⟩, hy7 T tA4 _ HBk.out (by decide) (by decide) (by decide), fun j hj => HFF.out j hj⟩)
              clear hd7 hb7 hy7 HRs HB HN HBk HFF
              generalize restartR keep D6 = D7 at *
              go_wp2
              go_loopw [18] (fun i wr => L4Rel w D7 T tA4 i wr) (fun i _ => 4 - (intOf i).toNat)
              case atStart => exact HI4.out
              case round =>
                clear HI4
                rename World => w8
                obtain ⟨k4, f8, hk4, rfl, hat, hbk, hff⟩ := hrel
                by_cases hlt4 : k4 < 4
                · have hki4 : (k4 : Int) < 4 := by omega
                  have HRd := Lib.hid (hat.read hlt4)
                  have HAt := Lib.hid hat
                  have HBk := Lib.hid hbk
                  have HFF := Lib.hid hff
                  clear hat hbk hff
                  go_wp2_with fail
                  refine HRd.out.mono ?_
                  rintro e w9 ⟨rfl, hb9⟩
                  have hbk9 : Blk w9 T tA4 (arr4 f8) := (hb9.block T HBk.out.lt).trans HBk.out
                  have c9 : w9.cell? ⟨T, k4, none⟩ = some (.string (nowB (D7.sec k4))) := by rw [hbk9.cell k4, arr4_at f8 k4 hlt4, HFF.out k4 hlt4]
                  have HB9 := Lib.hid hbk9
                  have HA9 := Lib.hid (HAt.out.keep hb9)
                  clear hb9 hbk9
                  go_wp2
                  go_roundw
                  case rel => exact ⟨k4 + 1, f8, by omega, by go_num, HA9.out, HB9.out, HFF.out⟩
                  case measure => simp [intOf]; omega
                · have hki4 : decide ((k4 : Int) < 4) = false := decide_eq_false (by omega)
                  have HB := Lib.hid hat.2.2.2.2
                  clear hat hbk hff
                  go_wp2
                  go_ret
                  exact ⟨rfl, HB.out⟩
end Go.Proofs.Ytocodapegeajoac
