/-
  WALK: (*log.Log).entry: the sectors of an entry, or the first change's error.
-/
import Derived.Test.YtgkenknplepmeaaLgE
namespace Go.Proofs.Ytgkenknplepmeaa
open Go.RowKit Go.Sort

/-- Does the disk have these sectors, and may they be a log? -/
def opB (D : Dk) (fr mn fi : Int) : Bool := decide (0 ≤ fr) && decide (1 ≤ mn) && decide (1 ≤ fi) && decide (mn ≤ (D.n : Int)) && decide (fr ≤ (D.n : Int) - mn)
set_option maxHeartbeats 1000000 in
set_option maxRecDepth 100000 in
theorem open_bad (base p B : Nat) (V : Nat → Value) (D : Dk) (fr mn fi : Int) (w : World) (hd : DkAt w base p B V D) (hm : -9223372036854775808 ≤ mn ∧ mn ≤ 9223372036854775807) (h : opB D fr mn fi = false) :
    Calls Try.prog 41 #[ptr p, .int .i64 fr, .int .i64 mn, .int .i64 fi] w fun e w' => e = .returned (.tuple #[.pointer none, .slice none 0 0, .iface 96 (.int .i64 1)]) ∧ w' = w := by
  have HS := Lib.hid (sectors_any base p B V D w hd)
  have hn1 := hd.n1
  have hn2 := hd.n2
  clear hd
  unfold ptr at *
  by_cases h1 : fr < 0
  · go_enter Try.func41, Try.ntmps41
    go_wp2_with fail
    refine HS.out.mono ?_
    rintro e w1 ⟨rfl, rfl⟩
    go_wp2
    go_ret3
    exact ⟨rfl, rfl⟩
  have d1 : decide (fr < 0) = false := decide_eq_false h1
  by_cases h2 : mn < 1
  · go_enter Try.func41, Try.ntmps41
    go_wp2_with fail
    refine HS.out.mono ?_
    rintro e w1 ⟨rfl, rfl⟩
    go_wp2
    go_ret3
    exact ⟨rfl, rfl⟩
  have d2 : decide (mn < 1) = false := decide_eq_false h2
  by_cases h3 : fi < 1
  · go_enter Try.func41, Try.ntmps41
    go_wp2_with fail
    refine HS.out.mono ?_
    rintro e w1 ⟨rfl, rfl⟩
    go_wp2
    go_ret3
    exact ⟨rfl, rfl⟩
  have d3 : decide (fi < 1) = false := decide_eq_false h3
  by_cases h4 : (D.n : Int) < mn
  · go_enter Try.func41, Try.ntmps41
    go_wp2_with fail
    refine HS.out.mono ?_
    rintro e w1 ⟨rfl, rfl⟩
    go_wp2
    go_ret3
    exact ⟨rfl, rfl⟩
  have d4 : decide ((D.n : Int) < mn) = false := decide_eq_false h4
  have h5 : (D.n : Int) - mn < fr := by
    unfold opB at h
    rw [decide_eq_true (show 0 ≤ fr by omega), decide_eq_true (show 1 ≤ mn by omega), decide_eq_true (show 1 ≤ fi by omega), decide_eq_true (show mn ≤ (D.n : Int) by omega)] at h
    simp at h
    omega
  go_enter Try.func41, Try.ntmps41
  go_wp2_with fail
  refine HS.out.mono ?_
  rintro e w1 ⟨rfl, rfl⟩
  go_wp2
  go_ret3
  exact ⟨rfl, rfl⟩
def OpPost (w : World) (p fr mn fi : Nat) (f : Nat → ByteArray) (e : Ending) (w' : World) : Prop := ∃ v v5 cs, e = .returned (.tuple #[ptr w.heap.size, v, .nilIface]) ∧ LgSt (w.alloc (.cells #[ptr p, .int .i64 fr, .int .i64 mn, .int .i64 fi, .int .i64 0] tLog)) w.heap.size p fr mn fi (rdR f fi mn 0 [] [] 0).2 v v5 (rdR f fi mn 0 [] [] 0).1 cs w'
set_option maxHeartbeats 1000000 in
set_option maxRecDepth 100000 in
theorem open_good (base p B fr mn fi : Nat) (V : Nat → Value) (D : Dk) (w : World) (hd : DkAt w base p B V D) (hdn : D.down = false) (hfr : fr + mn ≤ D.n) (hmn : 1 ≤ mn) (hf1 : 1 ≤ fi) (hfi : fi ≤ 1000000000000) :
    Calls Try.prog 41 #[ptr p, .int .i64 fr, .int .i64 mn, .int .i64 fi] w (OpPost w p fr mn fi (fun i => nowB (D.sec (fr + i)))) := by
  have HS := Lib.hid (sectors_any base p B V D w hd)
  have hn2 := hd.n2
  have hd1 : DkAt (w.alloc (.cells #[ptr p, .int .i64 fr, .int .i64 mn, .int .i64 fi, .int .i64 0] tLog)) base p B V D := hd.keep fun k _ hk => Below.heap_alloc _ _ _ hk
  have HR := Lib.hid (logRead_any w.heap.size base p B fr mn fi 0 V D (w.alloc (.cells #[ptr p, .int .i64 fr, .int .i64 mn, .int .i64 fi, .int .i64 0] tLog)) (Blk.new w tLog #[ptr p, .int .i64 fr, .int .i64 mn, .int .i64 fi, .int .i64 0]) hd1 hdn hfr hfi (by omega))
  clear hd hd1 hdn
  unfold OpPost ptr at *
  have d1 : decide ((fr : Int) < 0) = false := decide_eq_false (by omega)
  have d2 : decide ((mn : Int) < 1) = false := decide_eq_false (by omega)
  have d3 : decide ((fi : Int) < 1) = false := decide_eq_false (by omega)
  have d4 : decide ((D.n : Int) < (mn : Int)) = false := decide_eq_false (by omega)
  have d5 : decide ((D.n : Int) - (mn : Int) < (fr : Int)) = false := decide_eq_false (by omega)
  go_enter Try.func41, Try.ntmps41
  go_wp2_with fail
  refine HS.out.mono ?_
  rintro e w1 ⟨rfl, rfl⟩
  go_wp2_with fail
  refine HR.out.mono ?_
  rintro e w2 ⟨v, v5, cs, rfl, hst⟩
  have HST := Lib.hid hst
  clear hst HR HS
  go_wp2
  go_ret3
  exact ⟨v, v5, cs, rfl, HST.out⟩
set_option maxHeartbeats 1000000 in
set_option maxRecDepth 100000 in
theorem room_any (pl p fr mn fi u : Nat) (w : World) (hl : Blk w pl tLog #[ptr p, .int .i64 fr, .int .i64 mn, .int .i64 fi, .int .i64 u]) (hm : mn ≤ 1000000) (hu : u ≤ 1000000) :
    Calls Try.prog 44 #[ptr pl] w fun e w' => e = .returned (.int .i64 ((mn : Int) - (u : Int))) ∧ ∃ k, w' = w.drewN k := by
  have c2 := hl.cell 2
  have c4 := hl.cell 4
  have wz : IntKind.i64.wrap ((mn : Int) - (u : Int)) = (mn : Int) - (u : Int) := by rw [IntKind.wrap_i64]; omega
  clear hl
  unfold ptr
  go_enter Try.func44, Try.ntmps44
  go_wp2
  go_quiet (fail)
  go_wp2
  go_ret
  exact ⟨rfl, _, rfl⟩
set_option maxHeartbeats 1000000 in
set_option maxRecDepth 100000 in
theorem next_any (pl p fr mn fi u : Nat) (w : World) (hl : Blk w pl tLog #[ptr p, .int .i64 fr, .int .i64 mn, .int .i64 fi, .int .i64 u]) (hm : mn ≤ 1000000) (hf : fi ≤ 1000000000000) :
    Calls Try.prog 45 #[ptr pl] w fun e w' => e = .returned (.int .i64 ((fi : Int) + (mn : Int))) ∧ ∃ k, w' = w.drewN k := by
  have c2 := hl.cell 2
  have c3 := hl.cell 3
  have wz : IntKind.i64.wrap ((fi : Int) + (mn : Int)) = (fi : Int) + (mn : Int) := by rw [IntKind.wrap_i64]; omega
  clear hl
  unfold ptr
  go_enter Try.func45, Try.ntmps45
  go_wp2
  go_quiet (fail)
  go_wp2
  go_ret
  exact ⟨rfl, _, rfl⟩
end Go.Proofs.Ytgkenknplepmeaa
namespace Go.Proofs.Ytgkenknplepmeaa
open Go.RowKit Go.Sort

abbrev tStr : TypeId := 9
theorem str_info : ∃ i, Try.prog.info? tStr = some i ∧ i.zero = some (.string ⟨#[]⟩) ∧ i.size = 1 ∧ i.bytes = 16 := by
  have h : (Try.prog.info? tStr).map (fun i => (i.zero, i.size, i.bytes)) = some (some (.string ⟨#[]⟩), 1, 16) := by kernel_rfl
  cases e : Try.prog.info? tStr with
  | none => rw [e] at h; cases h
  | some i =>
    rw [e] at h
    simp only [Option.map_some, Option.some.injEq, Prod.mk.injEq] at h
    exact ⟨i, rfl, h.1, h.2.1, h.2.2⟩
def sO : ByteArray := ⟨#[111]⟩
def sC : ByteArray := ⟨#[99]⟩
/-- The first k sectors of an entry's changes. -/
def entTo (n : Nat) (l : List Ch) (k : Nat) : List ByteArray := (List.range k).map fun i => secR sO (n + i) (encR (l.getD i default))
theorem entTo_succ (n : Nat) (l : List Ch) (k : Nat) {c : Ch} (hc : l[k]? = some c) : entTo n l (k + 1) = entTo n l k ++ [secR sO (n + k) (encR c)] := by
  unfold entTo
  rw [List.range_succ, List.map_append]
  simp [List.getD_eq_getElem?_getD, hc]
/-- The sectors of an entry. -/
def entR (n : Nat) (l : List Ch) : List ByteArray := entTo n l l.length ++ [secR sC (n + l.length) (numR l.length 4)]
def scells (l : List ByteArray) : List Value := l.map .string
theorem scells_append (a b : List ByteArray) : scells (a ++ b) = scells a ++ scells b := by simp [scells]
theorem own_upG {wc : World} {B n s : Nat} {e : TypeId} {v : Value} {xs : List Value} (h : wc.ownsRow B e s v n xs) (o : Obj) : (wc.alloc o).ownsRow B e s v n xs := ownsRow_block h (fun g hg => Below.heap_alloc wc _ _ (h.lt g hg).2)
theorem own_step {wc w' : World} {B n s : Nat} {e : TypeId} {v : Value} {xs : List Value} (h : wc.ownsRow B e s v n xs) (hb : Below wc.heap.size wc w') : w'.ownsRow B e s v n xs := ownsRow_block h (fun g hg => hb.block g (h.lt g hg).2)
theorem rdx_str (wc : World) (s : ByteArray) : RdX (wc.alloc (.cells #[.string s] tStr)) 1 (some ⟨wc.heap.size, 0, none⟩) 1 [.string s] := RdX.new wc 1 #[.string s] tStr rfl (fun v hv => by simp at hv; subst hv; rfl)
def EnPost (w : World) (n : Nat) (l : List Ch) (e : Ending) (w' : World) : Prop := Below w.heap.size w w' ∧
  ((∃ v, e = .returned (.tuple #[v, .nilIface]) ∧ (∀ c ∈ l, ckR c = 0) ∧ w'.ownsRow w.heap.size tStr 1 v (l.length + 1) (scells (entR n l))) ∨
   ∃ (k : Nat) (c : Ch), l[k]? = some c ∧ ckR c ≠ 0 ∧ (∀ (j : Nat) (d : Ch), j < k → l[j]? = some d → ckR d = 0) ∧ e = .returned (.tuple #[.slice none 0 0, erV (ckR c)]))
def EnRel (w : World) (n : Nat) (l : List Ch) (v6 vi : Value) (wr : World) : Prop := ∃ k : Nat, k ≤ l.length ∧ vi = .int .i64 k ∧ wr.ownsRow w.heap.size tStr 1 v6 k (scells (entTo n l k)) ∧ Below w.heap.size w wr ∧ ∀ (j : Nat) (d : Ch), j < k → l[j]? = some d → ckR d = 0
set_option maxHeartbeats 1000000 in
set_option maxRecDepth 100000 in
theorem entry_any (pl p fr mn fi u : Nat) (A : Option Addr) (m c : Nat) (l : List Ch) (w : World) (hl : Blk w pl tLog #[ptr p, .int .i64 fr, .int .i64 mn, .int .i64 fi, .int .i64 u]) (h : RdC w w.heap.size A m c l) (hm : m ≤ 100000) (hs : ∀ f ∈ l, f.key.size ≤ 20 ∧ f.val.size ≤ 400) (hf : fi ≤ 1000000000000) (hu : u ≤ 1000000) :
    Calls Try.prog 77 #[ptr pl, .slice A m c] w (EnPost w (fi + u) l) := by
  obtain ⟨ti, hti, htz, hts, htb⟩ := str_info
  have HI := Lib.hid hti
  have HZ := Lib.hid htz
  have HSI := Lib.hid hts
  have HB := Lib.hid htb
  clear hti htz hts htb
  have c3 := hl.cell 3
  have c4 := hl.cell 4
  have wz : IntKind.i64.wrap ((fi : Int) + (u : Int)) = (fi : Int) + (u : Int) := by rw [IntKind.wrap_i64]; omega
  have HR := Lib.hid h
  have HL := Lib.hid h.1
  have HS := Lib.hid hs
  have hmc := h.2.1
  have hcm := h.2.2.1
  unfold maxLen at hcm
  clear hl h hs
  unfold ptr
  go_enter Try.func77, Try.ntmps77
  go_wp2_with fail
  go_quiet (fail)
  have HB1 : Hid (Below w.heap.size w (w.drewN nq)) := below_drewN (Below.refl _ _) nq
  clear c3 c4 wz
  generalize w.drewN nq = w1 at *
  go_wp2
  go_loopw [6, 23] (fun v6 vi wr => EnRel w (fi + u) l v6 vi wr) (fun _ vi _ => m - (intOf vi).toNat)
  case atStart => exact ⟨0, Nat.zero_le _, rfl, World.ownsRow_nil _ _ _ _, HB1.out, fun j d h => by omega⟩
  case round =>
    clear HB1
    obtain ⟨k, hk, rfl, hown, hbe, hall⟩ := hrel
    have hkm : k ≤ m := by rw [HL.out] at hk; exact hk
    have HO := Lib.hid hown
    have HBE := Lib.hid hbe
    have HALL := Lib.hid hall
    clear hk hown hbe hall
    by_cases hlt : k < m
    · obtain ⟨f, hf⟩ : ∃ f, l[k]? = some f := ⟨_, List.getElem?_eq_getElem (by rw [HL.out]; exact hlt)⟩
      obtain ⟨b', off, rfl, hbb, q0, q1, q2⟩ := (HR.out.below HBE.out).at_ hf
      have hsf := HS.out f (List.mem_of_getElem? hf)
      have HFF := Lib.hid hf
      have HBY := Lib.hid (fun W => rowBytes_any f W (by omega) (by omega))
      simp only [encV_eq, Ch.v] at HBY
      have hx := StC.new wr f.key f.val f.gone tCh
      have x0 := hx.c0
      have x1 := hx.c1
      have x2 := hx.c2
      have HB2 := Lib.hid (HBE.out.alloc HBE.out.size (.cells #[.string f.key, .string f.val, .bool f.gone] tCh))
      have HO2 := Lib.hid (own_upG HO.out (.cells #[.string f.key, .string f.val, .bool f.gone] tCh))
      have kz : (k : Int) < (m : Int) := by omega
      have hes : (encS f).size ≤ 1000 := by
        unfold encS
        split
        · rename_i h0
          have h1 := encR_list f
          have h3 : (encR f).size = (encR f).data.toList.length := by rw [Array.length_toList]; rfl
          rw [h3, h1]
          simp only [List.length_cons, List.length_append, Array.length_toList]
          show f.key.size + f.val.size + 1 + 1 ≤ 1000
          omega
        · show 0 ≤ 1000; omega
      clear hf hx hsf
      by_cases hc : ckR f = 0
      · have hen : encS f = encR f := if_pos hc
        rw [hc, show erV 0 = .nilIface from rfl] at HBY
        have HSE := Lib.hid (fun W => sector_any sO (encS f) (fi + u + k) W (by omega) (by show 1 ≤ 1000000; omega) (by omega))
        rw [show ((fi + u + k : Nat) : Int) = (fi : Int) + (u : Int) + (k : Int) by omega] at HSE
        have hst := entTo_succ (fi + u) l k HFF.out
        rw [← hen] at hst
        generalize hsec : secR sO (fi + u + k) (encS f) = sec at *
        have HST := Lib.hid hst
        unfold sO at HSE
        clear hst hsec hen
        go_wp2_with fail
        refine (HBY.out _).mono ?_
        rintro e w3 ⟨rfl, hb3⟩
        have HB3 := Lib.hid (HB2.out.trans (hb3.mono HB2.out.size))
        have HO3 := Lib.hid (own_step HO2.out hb3)
        clear hb3 HBY HB2 HO2
        go_wp2_with fail
        with_reducible refine (HSE.out _).mono ?_
        rintro e w4 ⟨rfl, hb4⟩
        have HB4 := Lib.hid (HB3.out.trans (hb4.mono HB3.out.size))
        have HO4 := Lib.hid (own_step HO3.out hb4)
        clear hb4 HSE HB3 HO3
        go_wp2_with (at_builtin; refine wpList_append_rd _ rfl (.tmp 36) (.tmp 42) _ rfl w.heap.size tStr ti _ 1 16 Try.underlying47 HI.out HZ.out HSI.out HB.out rfl (by omega) _ _ _ rfl (own_upG HO4.out _) _ 1 1 _ rfl (rdx_str w4 sec) ?_ ?_ ?_ ?_)
        · unfold maxLen; omega
        · omega
        · exact Nat.le_trans HB4.out.size (by simp)
        intro v5 w5 hown5 hg5 _
        have HB5 := Lib.hid ((HB4.out.alloc HB4.out.size _).grown hg5 (Nat.le_trans HB4.out.size (by simp)) (fun g' hg' => (HO4.out.lt g' hg').1))
        have HO5 := Lib.hid hown5
        clear hown5 hg5
        go_wp2
        go_roundw
        case rel => exact ⟨k + 1, by rw [HL.out]; omega, by go_num, by rw [HST.out, scells_append]; exact HO5.out, HB5.out, fun j d hj hd => by
          rcases Nat.lt_or_ge j k with h1 | h1
          · exact HALL.out j d h1 hd
          · obtain rfl : j = k := by omega
            rw [HFF.out] at hd
            injection hd with hd
            rw [← hd]; exact hc⟩
        case measure => simp [intOf]; omega
      · have HE := Lib.hid (show erV (ckR f) = .iface 96 (.int .i64 (ckR f)) from if_neg hc)
        rw [HE.out] at HBY
        go_wp2_with fail
        refine (HBY.out _).mono ?_
        rintro e w3 ⟨rfl, hb3⟩
        have HB3 := Lib.hid (HB2.out.trans (hb3.mono HB2.out.size))
        clear hb3 HBY HB2 HO2
        go_wp2
        go_ret2
        exact ⟨HB3.out, .inr ⟨k, f, HFF.out, hc, HALL.out, by rw [HE.out]; rfl⟩⟩
    · obtain rfl : k = m := by omega
      have HCN := Lib.hid (fun W => count_any k W (by omega))
      have HSE := Lib.hid (fun W => sector_any sC (numR k 4) (fi + u + k) W (by omega) (by show 1 ≤ 1000000; omega) (by rw [num4_size]; omega))
      rw [show ((fi + u + k : Nat) : Int) = (fi : Int) + (u : Int) + (k : Int) by omega] at HSE
      have hfin : entR (fi + u) l = entTo (fi + u) l k ++ [secR sC (fi + u + k) (numR k 4)] := by unfold entR; rw [HL.out]
      generalize hsec : secR sC (fi + u + k) (numR k 4) = sec at *
      have HFI := Lib.hid hfin
      unfold sC at HSE
      clear hfin hsec
      generalize numR k 4 = n4 at *
      go_wp2_with fail
      refine (HCN.out _).mono ?_
      rintro e w3 ⟨rfl, hb3⟩
      have HB3 := Lib.hid (HBE.out.trans (hb3.below.mono HBE.out.size))
      have HO3 := Lib.hid (own_step HO.out hb3.below)
      clear hb3 HCN
      go_wp2_with fail
      with_reducible refine (HSE.out _).mono ?_
      rintro e w4 ⟨rfl, hb4⟩
      have HB4 := Lib.hid (HB3.out.trans (hb4.mono HB3.out.size))
      have HO4 := Lib.hid (own_step HO3.out hb4)
      clear hb4 HSE HB3 HO3
      go_wp2_with (at_builtin; refine wpList_append_rd _ rfl (.tmp 45) (.tmp 54) _ rfl w.heap.size tStr ti _ 1 16 Try.underlying47 HI.out HZ.out HSI.out HB.out rfl (by omega) _ _ _ rfl (own_upG HO4.out _) _ 1 1 _ rfl (rdx_str w4 sec) ?_ ?_ ?_ ?_)
      · unfold maxLen; omega
      · omega
      · exact Nat.le_trans HB4.out.size (by simp)
      intro v5 w5 hown5 hg5 _
      have HB5 := Lib.hid ((HB4.out.alloc HB4.out.size _).grown hg5 (Nat.le_trans HB4.out.size (by simp)) (fun g' hg' => (HO4.out.lt g' hg').1))
      have HO5 := Lib.hid hown5
      clear hown5 hg5
      go_wp2
      go_ret2
      exact ⟨HB5.out, .inl ⟨_, rfl, fun c hc => by
        obtain ⟨j, hj, e⟩ := List.mem_iff_getElem.1 hc
        exact HALL.out j c (by rw [HL.out] at hj; exact hj) (by rw [List.getElem?_eq_getElem hj, e]), by rw [HFI.out, scells_append, HL.out]; exact HO5.out⟩⟩
end Go.Proofs.Ytgkenknplepmeaa
