/-
  WORDS: what expand.Auto gives: each dollar with its letter replaced, from left to right.
-/
import Derived.Test.YtlkpbpecgdphaaaGreatDoorGen
import Derived.Test.YtlkpbpecgdphaaaGreatDoorMax
import Derived.Deep.QuietTactic
import Derived.BigQuiet
import Derived.Lib.AppendStr
import Derived.Laws.IdiomStrings
import Derived.Lib.Builder
namespace Go.Proofs.YtlkpbpecgdphaaaGreatDoor
open Go.RowKit

/-- Which text stands for a letter behind a dollar. -/
def autoV (v0 v1 v2 v3 : ByteArray) (c : UInt8) : Option ByteArray :=
  if c = 64 then some v0 else if c = 60 then some v1 else if c = 94 then some v2 else if c = 42 then some v3 else none
/-- What lookup finds at the head of a text. -/
def lookR (v0 v1 v2 v3 : ByteArray) (s : ByteArray) : Option ByteArray :=
  if h : 2 ≤ s.size then (if s[0] = 36 then autoV v0 v1 v2 v3 s[1] else none) else none
def lookV (r : Option ByteArray) : Value := match r with
  | some v => .tuple #[.string v, .int .i64 2, .bool true]
  | none => .tuple #[.string ⟨#[]⟩, .int .i64 0, .bool false]
/-- The replacer as it stands in memory. -/
structure RepOk (w : World) (G : Nat) (v0 v1 v2 v3 : ByteArray) : Prop where
  gen : Blk w G tG (gC (tab (G + 1)) 5 mp5)
  t0 : Blk w (G + 1) tP #[ptr (G + 2), noP, noP, noP, noP]
  nd : Blk w (G + 2) tN #[noS, .int .i64 0, noS, noP, tab (G + 5)]
  n0 : Blk w (G + 3) tN (leaf v0 8)
  n1 : Blk w (G + 4) tN (leaf v1 6)
  t1 : Blk w (G + 5) tP #[noP, ptr (G + 7), ptr (G + 4), ptr (G + 3), ptr (G + 6)]
  n2 : Blk w (G + 6) tN (leaf v2 4)
  n3 : Blk w (G + 7) tN (leaf v3 2)
section
variable {w w' : World} {G : Nat} {v0 v1 v2 v3 : ByteArray}
theorem AdSt.rep {wr : World} (h : AdSt w wr v0 v1 v2 v3 4) : RepOk wr w.heap.size v0 v1 v2 v3 := by
  obtain ⟨_, b1, b2, b3, b4, b5, b6, b7⟩ := h.st
  exact ⟨h.gen, b1, b2, b3, b4, b5, b6, b7⟩
theorem RepOk.keep (h : RepOk w G v0 v1 v2 v3) (hk : ∀ k, G ≤ k → k < G + 8 → w'.heap[k]? = w.heap[k]?) : RepOk w' G v0 v1 v2 v3 :=
  ⟨(hk _ (by omega) (by omega)).trans h.gen, (hk _ (by omega) (by omega)).trans h.t0, (hk _ (by omega) (by omega)).trans h.nd, (hk _ (by omega) (by omega)).trans h.n0, (hk _ (by omega) (by omega)).trans h.n1, (hk _ (by omega) (by omega)).trans h.t1, (hk _ (by omega) (by omega)).trans h.n2, (hk _ (by omega) (by omega)).trans h.n3⟩
theorem RepOk.map (h : RepOk w G v0 v1 v2 v3) (x : Nat) (hx : x < 256) : w.cell? ⟨G, 6 + x, none⟩ = some (.int .u8 (mp5 x)) := (h.gen.cell _).trans (gC_at _ _ _ _ hx)
end
/-- Which leaf a letter behind a dollar leads to. -/
theorem RepOk.leaf_of {w : World} {G : Nat} {v0 v1 v2 v3 : ByteArray} (h : RepOk w G v0 v1 v2 v3) {c : UInt8} {v : ByteArray} (hv : autoV v0 v1 v2 v3 c = some v) :
    ∃ (m N : Nat) (p : Int), mp5 c.toNat = m ∧ m < 5 ∧ 0 < p ∧ w.cell? ⟨G + 5, m, none⟩ = some (ptr N) ∧ N ≠ G ∧ Blk w N tN (leaf v p) := by
  unfold autoV at hv
  split at hv
  · rename_i e; obtain rfl := Option.some.inj hv; exact ⟨3, G + 3, 8, by rw [e]; exact mp5_36.2.2.2.1, by omega, by omega, h.t1.cell 3, by omega, h.n0⟩
  · split at hv
    · rename_i e; obtain rfl := Option.some.inj hv; exact ⟨2, G + 4, 6, by rw [e]; exact mp5_36.2.2.1, by omega, by omega, h.t1.cell 2, by omega, h.n1⟩
    · split at hv
      · rename_i e; obtain rfl := Option.some.inj hv; exact ⟨4, G + 6, 4, by rw [e]; exact mp5_36.2.2.2.2, by omega, by omega, h.t1.cell 4, by omega, h.n2⟩
      · split at hv
        · rename_i e; obtain rfl := Option.some.inj hv; exact ⟨1, G + 7, 2, by rw [e]; exact mp5_36.2.1, by omega, by omega, h.t1.cell 1, by omega, h.n3⟩
        · cases hv
theorem mp5_lt (x : Nat) (h : x < 256) : ∃ m : Nat, mp5 x = m ∧ m ≤ 5 ∧ (m = 0 → x = 36) ∧ (m = 5 → x ∉ sq) := by
  by_cases hx : x ∈ sq
  · have hall : ∀ y ∈ sq, ∃ m : Nat, mp5 y = m ∧ m ≤ 5 ∧ (m = 0 → y = 36) ∧ (m = 5 → y ∉ sq) := by
      intro y hy
      simp only [sq, List.mem_cons, List.not_mem_nil, or_false] at hy
      rcases hy with rfl | rfl | rfl | rfl | rfl | rfl | rfl | rfl
      · exact ⟨0, mp5_36.1, by omega, fun _ => rfl, fun h => by omega⟩
      · exact ⟨3, mp5_36.2.2.2.1, by omega, fun h => by omega, fun h => by omega⟩
      · exact ⟨0, mp5_36.1, by omega, fun _ => rfl, fun h => by omega⟩
      · exact ⟨2, mp5_36.2.2.1, by omega, fun h => by omega, fun h => by omega⟩
      · exact ⟨0, mp5_36.1, by omega, fun _ => rfl, fun h => by omega⟩
      · exact ⟨4, mp5_36.2.2.2.2, by omega, fun h => by omega, fun h => by omega⟩
      · exact ⟨0, mp5_36.1, by omega, fun _ => rfl, fun h => by omega⟩
      · exact ⟨1, mp5_36.2.1, by omega, fun h => by omega, fun h => by omega⟩
    exact hall x hx
  · exact ⟨5, mp5_other x h hx, by omega, fun h => by omega, fun _ => hx⟩
theorem autoV_none {v0 v1 v2 v3 : ByteArray} {c : UInt8} (h : autoV v0 v1 v2 v3 c = none) : c.toNat = 36 ∨ c.toNat ∉ sq := by
  unfold autoV at h
  by_cases h36 : c.toNat = 36
  · exact .inl h36
  · refine .inr (fun hm => ?_)
    simp only [sq, List.mem_cons, List.not_mem_nil, or_false] at hm
    have key : ∀ d : UInt8, c.toNat = d.toNat → c = d := fun d e => UInt8.toNat_inj.1 e
    rcases hm with e | e | e | e | e | e | e | e
    · exact h36 e
    · rw [key 64 e] at h; simp at h
    · exact h36 e
    · rw [key 60 e] at h; simp at h
    · exact h36 e
    · rw [key 94 e] at h; simp at h
    · exact h36 e
    · rw [key 42 e] at h; simp at h

/-- Where lookup's loop stands. -/
inductive LkSt (G : Nat) (v0 v1 v2 v3 : ByteArray) (s : ByteArray) (w : World) : Value → Value → Value → Value → Value → Value → Value → Prop
  | root : LkSt G v0 v1 v2 v3 s w (.string s) (.string ⟨#[]⟩) (.int .i64 0) (.bool false) (.int .i64 0) (ptr G) (.int .i64 0)
  | mid (h : 1 ≤ s.size) (h0 : s[0] = 36) : LkSt G v0 v1 v2 v3 s w (.string (s.extract 1 s.size)) (.string ⟨#[]⟩) (.int .i64 0) (.bool false) (.int .i64 0) (ptr (G + 2)) (.int .i64 1)
  | leaf (h : 2 ≤ s.size) (N : Nat) (p : Int) (v : ByteArray) (x : ByteArray) (hp : 0 < p) (hN : N ≠ G) (hv : lookR v0 v1 v2 v3 s = some v) (hb : Blk w N tN (leaf v p)) : LkSt G v0 v1 v2 v3 s w (.string x) (.string ⟨#[]⟩) (.int .i64 0) (.bool false) (.int .i64 0) (ptr N) (.int .i64 2)
  | off (x : Value) (n : Nat) (hn : n ≤ 2) (hv : lookR v0 v1 v2 v3 s = none) : LkSt G v0 v1 v2 v3 s w x (.string ⟨#[]⟩) (.int .i64 0) (.bool false) (.int .i64 0) noP (.int .i64 n)
end Go.Proofs.YtlkpbpecgdphaaaGreatDoor
namespace Go.Proofs.YtlkpbpecgdphaaaGreatDoor
open Go.RowKit

theorem RepOk.drewN {w : World} {G : Nat} {v0 v1 v2 v3 : ByteArray} (h : RepOk w G v0 v1 v2 v3) (n : Nat) : RepOk (w.drewN n) G v0 v1 v2 v3 := h.keep (fun _ _ _ => by simp)
def LkPost (v0 v1 v2 v3 s : ByteArray) (w : World) (e : Ending) (w' : World) : Prop := e = .returned (lookV (lookR v0 v1 v2 v3 s)) ∧ ∃ q, w' = w.drewN q
def LkRel (G : Nat) (v0 v1 v2 v3 s : ByteArray) (w : World) (x1 x6 x7 x8 x9 x10 x11 : Value) (wr : World) : Prop := LkSt G v0 v1 v2 v3 s w x1 x6 x7 x8 x9 x10 x11 ∧ ∃ q, wr = w.drewN q
theorem empty_of {s : ByteArray} (h : s.size = 0) : s.toList.isEmpty = true := by rw [ByteArray.toList_eq]; have : s.data.toList.length = 0 := h; rw [List.length_eq_zero_iff.1 this]; rfl
theorem full_of {s : ByteArray} (h : ¬ s.size = 0) : s.toList.isEmpty = false := by
  rw [ByteArray.toList_eq]
  cases hl : s.data.toList with
  | nil => exact absurd (show s.size = 0 from by have : s.data.toList.length = 0 := by rw [hl]; rfl
                                                 simpa using this) h
  | cons a l => rfl
theorem lookR_none_of {v0 v1 v2 v3 s : ByteArray} (h : s.size < 2) : lookR v0 v1 v2 v3 s = none := by unfold lookR; rw [dif_neg (by omega)]

set_option maxRecDepth 100000 in
set_option maxHeartbeats 1600000 in
theorem lookup_any (G : Nat) (v0 v1 v2 v3 s : ByteArray) (w : World) (h : RepOk w G v0 v1 v2 v3) (hs : s.size ≤ maxLen) (h36 : ∀ h : 0 < s.size, s[0] = 36) :
    Calls Tryz.prog 254 #[ptr G, .string s, .bool false] w (LkPost v0 v1 v2 v3 s w) := by
  unfold maxLen at hs
  have HR := Lib.hid h
  have H36 := Lib.hid h36
  clear h h36
  go_enter Tryz.func254, Tryz.ntmps254
  go_wp2_with fail
  go_loopw [1, 6, 7, 8, 9, 10, 11] (fun x1 x6 x7 x8 x9 x10 x11 wr => LkRel G v0 v1 v2 v3 s w x1 x6 x7 x8 x9 x10 x11 wr) (fun _ _ _ _ _ _ n _ => 3 - (intOf n).toNat)
  case atStart => exact ⟨.root, 0, rfl⟩
  case round =>
    obtain ⟨hst, q, rfl⟩ := hrel
    have HQ := Lib.hid (HR.out.drewN q)
    generalize hwr : w.drewN q = wr at *
    have HW := Lib.hid hwr
    clear hwr
    have hq1 : ∀ k, ∃ n, wr.drewN k = w.drewN n := fun k => ⟨q + k, by rw [← HW.out, World.drewN_drewN]⟩
    have HD := Lib.hid hq1
    have HE := Lib.hid (show ∃ n, wr = w.drewN n from ⟨q, HW.out.symm⟩)
    clear hq1
    cases hst with
    | root =>
      have c1 : wr.cell? ⟨G, 1, none⟩ = some (.int .i64 0) := (HQ.out.gen.cell 1).trans (gC_1 _ _ _)
      have c4 : wr.cell? ⟨G, 4, none⟩ = some (tab (G + 1)) := (HQ.out.gen.cell 4).trans (gC_4 _ _ _)
      have c5 : wr.cell? ⟨G, 5, none⟩ = some (.int .i64 5) := (HQ.out.gen.cell 5).trans (gC_5 _ _ _)
      by_cases h0 : s.size = 0
      · have hem := empty_of h0
        have HN := Lib.hid (lookR_none_of (v0 := v0) (v1 := v1) (v2 := v2) (v3 := v3) (s := s) (by omega))
        clear h0
        go_wp2
        refine bodyPost_ret (v := .tuple #[.string ⟨#[]⟩, .int .i64 0, .bool false]) (by simp [results, Tryz.results254, go_sem]) rfl ⟨by rw [HN.out]; rfl, HE.out⟩
      · have hpos : 0 < s.size := by omega
        have hem := full_of h0
        have hc0 : s[0] = 36 := H36.out hpos
        have hi : s[0].toNat = 36 := by rw [hc0]; rfl
        have cm : wr.cell? ⟨G, 42, none⟩ = some (.int .u8 0) := by have := HQ.out.map 36 (by decide); rw [mp5_36.1] at this; exact this
        have t0 : wr.cell? ⟨G + 1, 0, none⟩ = some (ptr (G + 2)) := HQ.out.t0.cell 0
        have HC := Lib.hid hc0
        clear hc0 h0
        go_wp2_with fail
        go_quiet (fail)
        go_wp2
        go_roundw
        case rel => exact ⟨.mid (by omega) HC.out, HD.out nq⟩
        case measure => simp [intOf]
    | mid h1 h0 =>
      have hts : (s.extract 1 s.size).size = s.size - 1 := by simp
      have htc : ∀ (h : 0 < (s.extract 1 s.size).size) (h2 : 1 < s.size), (s.extract 1 s.size)[0] = s[1] := fun h h2 => by simp [ByteArray.getElem_extract]
      generalize s.extract 1 s.size = t at *
      have HS := Lib.hid hts
      have HC := Lib.hid htc
      have H0 := Lib.hid h0
      clear hts htc h0
      have c1 : wr.cell? ⟨G + 2, 1, none⟩ = some (.int .i64 0) := HQ.out.nd.cell 1
      have c4 : wr.cell? ⟨G + 2, 4, none⟩ = some (tab (G + 5)) := HQ.out.nd.cell 4
      have c5 : wr.cell? ⟨G, 5, none⟩ = some (.int .i64 5) := (HQ.out.gen.cell 5).trans (gC_5 _ _ _)
      by_cases h0 : t.size = 0
      · have hem := empty_of h0
        have HN := Lib.hid (lookR_none_of (v0 := v0) (v1 := v1) (v2 := v2) (v3 := v3) (s := s) (by have := HS.out; omega))
        clear h0
        go_wp2
        refine bodyPost_ret (v := .tuple #[.string ⟨#[]⟩, .int .i64 0, .bool false]) (by simp [results, Tryz.results254, go_sem]) rfl ⟨by rw [HN.out]; rfl, HE.out⟩
      · have hpos : 0 < t.size := by omega
        have hem := full_of h0
        have h2 : 2 ≤ s.size := by have := HS.out; omega
        have HL := Lib.hid (show lookR v0 v1 v2 v3 s = autoV v0 v1 v2 v3 t[0] by unfold lookR; rw [dif_pos h2, if_pos H0.out, HC.out hpos (by omega)])
        have hcm := HQ.out.map t[0].toNat t[0].toNat_lt
        cases hv : autoV v0 v1 v2 v3 t[0] with
        | none =>
          have HN := Lib.hid (show lookR v0 v1 v2 v3 s = none by rw [HL.out, hv])
          rcases autoV_none hv with h36 | hno
          · rw [h36, mp5_36.1] at hcm
            have cm : wr.cell? ⟨G, 42, none⟩ = some (.int .u8 0) := hcm
            have t0 : wr.cell? ⟨G + 5, 0, none⟩ = some noP := HQ.out.t1.cell 0
            clear hcm hv h0 HL
            go_wp2_with fail
            go_quiet (fail)
            go_wp2
            go_roundw
            case rel => exact ⟨.off _ 2 (by omega) HN.out, HD.out nq⟩
            case measure => simp [intOf]
          · rw [mp5_other _ t[0].toNat_lt hno] at hcm
            clear hv h0 HL hno
            have hk := t[0].toNat_lt
            obtain ⟨k, ek⟩ : ∃ k, t[0].toNat = k := ⟨_, rfl⟩
            rw [ek] at hcm hk
            have hk2 : (k : Int) < 256 := by omega
            go_wp2_with fail
            go_quiet (fail)
            go_wp2
            refine bodyPost_ret (v := .tuple #[.string ⟨#[]⟩, .int .i64 0, .bool false]) (by simp [results, Tryz.results254, go_sem]) rfl ⟨by rw [HN.out]; rfl, HD.out nq⟩
        | some v =>
          obtain ⟨m, N, p, hm, hm5, hp, htl, hNG, hbl⟩ := HQ.out.leaf_of hv
          rw [hm] at hcm
          have HV := Lib.hid (show lookR v0 v1 v2 v3 s = some v by rw [HL.out, hv])
          have hm6 : ((m : Int) == 5) = false := by rw [beq_eq_false_iff_ne]; omega
          have HB := Lib.hid hbl
          clear hv h0 HL hm hbl
          have hk := t[0].toNat_lt
          obtain ⟨k, ek⟩ : ∃ k, t[0].toNat = k := ⟨_, rfl⟩
          rw [ek] at hcm hk
          have hk2 : (k : Int) < 256 := by omega
          have hm2 : (m : Int) < 5 := by omega
          go_wp2_with fail
          go_quiet (fail)
          go_wp2
          go_roundw
          case rel => exact ⟨.leaf (by omega) N p v _ hp hNG HV.out (by rw [← HW.out] at HB; exact HB.out), HD.out nq⟩
          case measure => simp [intOf]
    | leaf h2 N p v x hp hN hv hb =>
      have hb' : Blk wr N tN (leaf v p) := by rw [← HW.out]; exact hb
      have c0 : wr.cell? ⟨N, 0, none⟩ = some (.string v) := hb'.cell 0
      have c1 : wr.cell? ⟨N, 1, none⟩ = some (.int .i64 p) := hb'.cell 1
      have c2 : wr.cell? ⟨N, 2, none⟩ = some noS := hb'.cell 2
      have c4 : wr.cell? ⟨N, 4, none⟩ = some noT := hb'.cell 4
      have HV := Lib.hid hv
      clear hv hb hb'
      have hgt : decide ((0 : Int) < p) = true := by simpa using hp
      go_wp2
      all_goals refine bodyPost_ret (v := .tuple #[.string v, .int .i64 2, .bool true]) (by simp [results, Tryz.results254, go_sem]) rfl ⟨by rw [HV.out]; rfl, HE.out⟩
    | off x n hn hv =>
      have HV := Lib.hid hv
      clear hv
      go_wp2
      refine bodyPost_ret (v := .tuple #[.string ⟨#[]⟩, .int .i64 0, .bool false]) (by simp [results, Tryz.results254, go_sem]) rfl ⟨by rw [HV.out]; rfl, HE.out⟩
end Go.Proofs.YtlkpbpecgdphaaaGreatDoor
namespace Go.Proofs.YtlkpbpecgdphaaaGreatDoor
open Go.RowKit

abbrev tW : TypeId := 322
abbrev tB : TypeId := 5
/-- The writer at block a has the bytes t so far; its row lies at B or above. -/
def WrAt (w : World) (B a : Nat) (t : ByteArray) : Prop :=
  B ≤ a ∧ ∃ v, Blk w a tW #[v] ∧ w.ownsRow B tB 1 v t.size (Lib.strCells t)
theorem strCells_append (a b : ByteArray) : Lib.strCells (a ++ b) = Lib.strCells a ++ Lib.strCells b := by simp [Lib.strCells]
theorem WrAt.drewN {w : World} {B a : Nat} {t : ByteArray} (h : WrAt w B a t) (n : Nat) : WrAt (w.drewN n) B a t := by
  obtain ⟨h1, v, h2, h3⟩ := h
  exact ⟨h1, v, by unfold Blk at h2 ⊢; simpa using h2, h3.1, by simpa using h3.2⟩
theorem own_ne {w : World} {B a n : Nat} {v : Value} {xs : List Value} {cs : Array Value} (h : w.ownsRow B tB 1 v n xs) (hb : Blk w a tW cs) : v.ownBlock ≠ some a := by
  have := Lib.ownBlock_ne h hb (by decide)
  exact this
set_option maxRecDepth 100000 in
theorem getw_any (a : Nat) (w : World) : Calls Tryz.prog 253 #[.iface 323 (ptr a)] w fun e w' => e = .returned (.iface 323 (ptr a)) ∧ w = w' := by
  have has : ∀ (v : Value) (w : World), (Instr.typeAssert (.iface 323 v) 325 327 true).run Tryz.prog w = .ok (.tuple #[.iface 323 v, .bool true]) w := fun v w => by kernel_rfl
  go_enter Tryz.func253, Tryz.ntmps253
  go_wp2
  go_ret
  exact ⟨rfl, rfl⟩
set_option maxRecDepth 100000 in
set_option maxHeartbeats 1600000 in
theorem wrs_any (B a : Nat) (t s : ByteArray) (w : World) (h : WrAt w B a t) (hn : t.size + s.size ≤ 1000000000) (hB : B ≤ w.heap.size) :
    Calls Tryz.prog 261 #[ptr a, .string s] w fun e w' => e = .returned (.tuple #[.int .i64 s.size, .nilIface]) ∧ WrAt w' B a (t ++ s) ∧ Below B w w' := by
  obtain ⟨hBa, v, hb, ho⟩ := h
  have hne := own_ne ho hb
  have c0 : w.cell? ⟨a, 0, none⟩ = some v := hb.cell 0
  have HB := Lib.hid hb
  have HO := Lib.hid ho
  have HN := Lib.hid hne
  clear hb ho hne
  go_enter Tryz.func261, Tryz.ntmps261
  go_wp2_with (refine Lib.wpList_append_own_string _ rfl (.tmp 9) (.tmp 10) tW 9 rfl B tB Tryz.t5 Tryz.underlying322 Tryz.underlying9 (by kernel_rfl) (by kernel_rfl) (by kernel_rfl) (by kernel_rfl) v t.size (Lib.strCells t) rfl HO.out s rfl (by unfold maxLen; omega) (by omega) hB ?_; intro v2 w2 ho2 hg2 _; obtain ⟨A2, k2, rfl⟩ := own_shape ho2; have HO2 := Lib.hid ho2; have HG2 := Lib.hid hg2; have HB2 := Lib.hid (HB.out.grown hg2 HN.out); have c2 : w2.cell? ⟨a, 0, none⟩ = some v := HB2.out.cell 0; have f2 := HB2.out.free 0; clear ho2 hg2)
  go_ret2
  have hne2 := own_ne HO2.out HB2.out
  have ho3 : (w2.setCell ⟨a, 0, none⟩ (.slice A2 (t.size + s.size) k2)).ownsRow B tB 1 (.slice A2 (t.size + s.size) k2) (t.size + s.size) (Lib.strCells t ++ Lib.strCells s) := HO2.out.kept (row := some a) ⟨rfl, rfl, rfl, by simp [World.setCell], fun k hk hn => Below.heap_setCell _ _ _ _ (fun e => hn (by rw [show k = a from e]))⟩ (.inr hne2)
  refine ⟨rfl, ⟨hBa, _, HB2.out.set 0 _, ?_⟩, ?_⟩
  · rw [strCells_append, ByteArray.size_append]; exact ho3
  · exact ((Below.refl B w).grown HG2.out hB (fun g' hg' => (HO.out.lt g' hg').1)).setCell (by simpa using hBa) _
end Go.Proofs.YtlkpbpecgdphaaaGreatDoor
namespace Go.Proofs.YtlkpbpecgdphaaaGreatDoor

section
variable (v0 v1 v2 v3 : ByteArray)
def autoL : Bs → Bs
  | [] => []
  | [b] => [b]
  | b :: c :: r => match (if b = 36 then autoV v0 v1 v2 v3 c else none) with
    | some v => v.data.toList ++ autoL r
    | none => b :: autoL (c :: r)
/-- What is found at the head of a text. -/
def look2 : Bs → Option ByteArray
  | b :: c :: _ => if b = 36 then autoV v0 v1 v2 v3 c else none
  | _ => none
theorem lookR_eq (s : ByteArray) : lookR v0 v1 v2 v3 s = look2 v0 v1 v2 v3 s.data.toList := by
  obtain ⟨⟨l⟩⟩ := s
  unfold lookR look2
  rcases l with _ | ⟨b, _ | ⟨c, r⟩⟩
  · rfl
  · rfl
  · rw [dif_pos (show 2 ≤ (ByteArray.mk ⟨b :: c :: r⟩).size from by show 2 ≤ r.length + 1 + 1; omega)]
    rfl
theorem autoL_none {l : Bs} {b : UInt8} {r : Bs} (hl : l = b :: r) (h : look2 v0 v1 v2 v3 l = none) : autoL v0 v1 v2 v3 l = b :: autoL v0 v1 v2 v3 r := by
  subst hl
  rcases r with _ | ⟨c, r⟩
  · rfl
  · unfold look2 at h
    simp only [autoL, h]
theorem autoL_some {l : Bs} {v : ByteArray} (h : look2 v0 v1 v2 v3 l = some v) : ∃ b c r, l = b :: c :: r ∧ autoL v0 v1 v2 v3 l = v.data.toList ++ autoL v0 v1 v2 v3 r := by
  rcases l with _ | ⟨b, _ | ⟨c, r⟩⟩
  · cases h
  · cases h
  · refine ⟨b, c, r, rfl, ?_⟩
    unfold look2 at h
    simp only [autoL, h]

/-- How far the writing stands: t is written, what lies from l to k is to be written as it stands. -/
structure AInv (s : Bs) (t : Bs) (l k : Nat) : Prop where
  lk : l ≤ k
  ls : l ≤ s.length
  ks : k ≤ s.length + 1
  eq : t ++ (s.drop l).take (k - l) ++ autoL v0 v1 v2 v3 (s.drop k) = autoL v0 v1 v2 v3 s
section
variable {v0 v1 v2 v3} {s t : Bs} {l k : Nat}
theorem AInv.start (s : Bs) : AInv v0 v1 v2 v3 s [] 0 0 := ⟨Nat.le_refl _, Nat.zero_le _, Nat.zero_le _, by simp⟩
theorem AInv.skip (h : AInv v0 v1 v2 v3 s t l k) (hk : k < s.length) (hn : look2 v0 v1 v2 v3 (s.drop k) = none) : AInv v0 v1 v2 v3 s t l (k + 1) := by
  have hd : s.drop k = s[k] :: s.drop (k + 1) := (List.drop_eq_getElem_cons hk)
  have h2 := autoL_none v0 v1 v2 v3 hd hn
  have hlk := h.lk
  refine ⟨by omega, h.ls, by omega, ?_⟩
  have := h.eq
  rw [h2] at this
  rw [← this]
  have e1 : (s.drop l).take (k + 1 - l) = (s.drop l).take (k - l) ++ [s[k]] := by
    rw [show k + 1 - l = (k - l) + 1 by omega, List.take_succ_eq_append_getElem (by simp; omega)]
    congr 2
    simp [show l + (k - l) = k by omega]
  rw [e1]
  simp
theorem AInv.last (h : AInv v0 v1 v2 v3 s t l k) (hk : k = s.length) : AInv v0 v1 v2 v3 s t l (k + 1) := by
  have hlk := h.lk
  refine ⟨by omega, h.ls, by omega, ?_⟩
  have := h.eq
  rw [← this]
  rw [List.take_of_length_le (by simp; omega), List.take_of_length_le (by simp; omega), List.drop_of_length_le (show s.length ≤ k + 1 by omega), List.drop_of_length_le (show s.length ≤ k by omega)]
theorem AInv.hit (h : AInv v0 v1 v2 v3 s t l k) {v : ByteArray} (hn : look2 v0 v1 v2 v3 (s.drop k) = some v) : AInv v0 v1 v2 v3 s (t ++ (s.drop l).take (k - l) ++ v.data.toList) (k + 2) (k + 2) ∧ k + 2 ≤ s.length := by
  obtain ⟨b, c, r, e1, e2⟩ := autoL_some v0 v1 v2 v3 hn
  have hl : (s.drop k).length = r.length + 2 := by rw [e1]; rfl
  rw [List.length_drop] at hl
  have hr : s.drop (k + 2) = r := by rw [← List.drop_drop, e1]; rfl
  refine ⟨⟨Nat.le_refl _, by omega, by omega, ?_⟩, by omega⟩
  have := h.eq
  rw [e2] at this
  rw [← this, hr]
  simp
theorem AInv.fin (h : AInv v0 v1 v2 v3 s t l (s.length + 1)) : t ++ s.drop l = autoL v0 v1 v2 v3 s := by
  have := h.eq
  have hlk := h.ls
  rw [List.take_of_length_le (by simp; omega), List.drop_of_length_le (show s.length ≤ s.length + 1 by omega)] at this
  simpa [autoL] using this
theorem AInv.len (h : AInv v0 v1 v2 v3 s t l k) : t.length ≤ (autoL v0 v1 v2 v3 s).length := by rw [← h.eq]; simp
theorem AInv.len2 (h : AInv v0 v1 v2 v3 s t l k) (hk : k ≤ s.length) : t.length + (k - l) ≤ (autoL v0 v1 v2 v3 s).length := by rw [← h.eq]; have := h.lk; simp; omega
end
end
end Go.Proofs.YtlkpbpecgdphaaaGreatDoor
