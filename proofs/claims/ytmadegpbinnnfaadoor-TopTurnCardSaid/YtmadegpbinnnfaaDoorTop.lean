/-
  WALKS: hammerpondtop.number, hammerpondtop.only. PLAIN: what the commands of a group come to hangs on the files that it needs alone; they write its targets alone.
-/
import Derived.Test.YtmadegpbinnnfaaDoorRecipe
namespace Go.Proofs.YtmadegpbinnnfaaDoor
open Go.RowKit

set_option maxHeartbeats 400000 in
set_option maxRecDepth 100000 in
theorem number_nil (w : World) : Calls Tryd.prog 20 #[.nilIface] w fun e w' => e = .returned (.int .i64 0) ∧ w = w' := by
  go_enter Tryd.func20, Tryd.ntmps20
  go_wp2
  go_ret
  exact ⟨rfl, rfl⟩
set_option maxHeartbeats 400000 in
set_option maxRecDepth 100000 in
theorem number_err (k : Int) (w : World) : Calls Tryd.prog 20 #[.iface 23 (.int .i64 k)] w fun e w' => e = .returned (.int .i64 k) ∧ w = w' := by
  have ha := fun v W => assert_err v W
  go_enter Tryd.func20, Tryd.ntmps20
  go_wp2
  go_ret
  exact ⟨rfl, rfl⟩
theorem number_any (k : Int) (w : World) : Calls Tryd.prog 20 #[errV k] w fun e w' => e = .returned (.int .i64 k) ∧ w = w' := by
  by_cases h : k = 0
  · subst h; exact number_nil w
  · rw [errV_ne h]; exact number_err k w

def onlyF (l : List F) (names : List ByteArray) : List F := l.filter fun f => inT names f.1
theorem onlyF_take {l : List F} {names : List ByteArray} {k : Nat} {f : F} (h : l[k]? = some f) : onlyF (l.take (k + 1)) names = onlyF (l.take k) names ++ (if inT names f.1 = true then [f] else []) := by
  obtain ⟨hl, rfl⟩ := List.getElem?_eq_some_iff.1 h
  rw [List.take_succ_eq_append_getElem hl, onlyF, List.filter_append]
  by_cases e : inT names l[k].1 = true <;> simp [onlyF, e]
theorem onlyF_le (l : List F) (names : List ByteArray) : (onlyF l names).length ≤ l.length := List.length_filter_le _ _
def OnlyRel (w : World) (l : List F) (names : List ByteArray) (v i : Value) (wr : World) : Prop :=
  ∃ k : Nat, k ≤ l.length ∧ i = .int .i64 k ∧ wr.ownsRow w.heap.size 52 2 v (onlyF (l.take k) names).length (fcells (onlyF (l.take k) names)) ∧ Below w.heap.size w wr

set_option maxHeartbeats 2000000 in
set_option maxRecDepth 100000 in
theorem only_any (A An : Option Addr) (n c nn cn : Nat) (l : List F) (names : List ByteArray) (w : World) (h : RdF w w.heap.size A n c l) (h1 : RdS w w.heap.size An nn cn names) (hn : n ≤ 900000) (hnn : nn ≤ 900000) :
    Calls Tryd.prog 21 #[.slice A n c, .slice An nn cn] w fun e w' => ∃ v, e = .returned v ∧ w'.ownsRow w.heap.size 52 2 v (onlyF l names).length (fcells (onlyF l names)) ∧ Below w.heap.size w w' := by
  obtain ⟨i, hi, hz, hsz, hby⟩ := file_parts
  have HI := Lib.hid hi
  have HZ := Lib.hid hz
  have HS := Lib.hid hsz
  have HB := Lib.hid hby
  have HR := Lib.hid h
  have HL := Lib.hid h.1
  have HN := Lib.hid h1
  clear hi hz hsz hby h h1
  go_enter Tryd.func21, Tryd.ntmps21
  go_wp2
  go_loopw [5, 6] (fun v j wr => OnlyRel w l names v j wr) (fun _ j _ => n - (intOf j).toNat)
  case atStart => exact ⟨0, Nat.zero_le _, rfl, by simpa [onlyF, fcells] using World.ownsRow_nil _ _ _ _, Below.refl _ _⟩
  case round =>
    obtain ⟨k, hk, rfl, hown, hb⟩ := hrel
    have hkn : k ≤ n := by rw [← HL.out]; exact hk
    clear hk
    have HO := Lib.hid hown
    clear hown
    by_cases hlt : k < n
    · obtain ⟨f, hf⟩ : ∃ f, l[k]? = some f := ⟨_, List.getElem?_eq_getElem (by rw [HL.out]; exact hlt)⟩
      obtain ⟨b', off, rfl, hbb, hc1, hc2⟩ := HR.out.at_ hf
      have hkz : (k : Int) < (n : Int) := by omega
      have hd1 : wr.cell? ⟨b', off + k * 2, none⟩ = some (.string f.1) := (hb.cell (p := ⟨b', off + k * 2, none⟩) hbb).trans hc1
      have hd2 : wr.cell? ⟨b', off + k * 2 + 1, none⟩ = some (.string f.2) := (hb.cell (p := ⟨b', off + k * 2 + 1, none⟩) hbb).trans hc2
      have hstep := onlyF_take (names := names) hf
      have hle : (onlyF (l.take k) names).length ≤ n := Nat.le_trans (onlyF_le _ _) (by rw [List.length_take]; omega)
      clear hc1 hc2 hf
      obtain ⟨fx, ft⟩ := f
      cases hq : inT names fx with
      | false =>
        have hq' : ¬ inT names (fx, ft).1 = true := by rw [hq]; decide
        rw [if_neg hq', List.append_nil] at hstep
        have HT := Lib.hid hstep
        have HQ := Lib.hid hq
        clear hstep hq hq'
        go_wp2_with fail
        refine (in_any An nn cn names fx wr (HN.out.belowS hb) (by omega)).mono ?_
        rintro e w1 ⟨rfl, rfl⟩
        rw [HQ.out]
        go_wp2
        go_roundw
        case rel => exact ⟨k + 1, by rw [HL.out]; omega, by go_num, by rw [HT.out]; exact HO.out, hb⟩
        case measure => simp [intOf]; omega
      | true =>
        rw [if_pos hq] at hstep
        have HT := Lib.hid hstep
        have HQ := Lib.hid hq
        have hown1 := HO.out.alloc (.cells #[.string fx, .string ft] 52)
        have HO1 := Lib.hid hown1
        have H1 := Lib.hid (RdF_one wr fx ft 52)
        have hb1 : Below w.heap.size w (wr.alloc (.cells #[.string fx, .string ft] 52)) := hb.alloc hb.size _
        have hsz1 := hb1.size
        clear hstep hown1 hq
        go_wp2_with fail
        refine (in_any An nn cn names fx wr (HN.out.belowS hb) (by omega)).mono ?_
        rintro e w1 ⟨rfl, rfl⟩
        rw [HQ.out]
        go_wp2_with (at_builtin; refine wpList_append_files _ rfl (.tmp 20) (.tmp 25) _ rfl w.heap.size 52 i _ 32 Tryd.underlying31 HI.out HZ.out HS.out HB.out rfl _ _ _ rfl HO1.out _ _ 1 1 [(fx, ft)] rfl H1.out ?_ ?_ ?_ ?_)
        · unfold maxLen; omega
        · omega
        · simpa using hsz1
        intro v2 w2 hown2 hg2
        have hb2 : Below w.heap.size w w2 := hb1.grown hg2 hsz1 (fun g' hg' => (HO.out.lt g' hg').1)
        have HV := Lib.hid hown2
        clear hown2 HO1 H1 hd1 hd2 hsz1
        go_wp2
        go_roundw
        case rel => exact ⟨k + 1, by rw [HL.out]; omega, by go_num, by rw [HT.out]; exact owns_len HV.out, hb2⟩
        case measure => simp [intOf]; omega
    · obtain rfl : k = n := by omega
      go_wp2
      go_ret
      exact ⟨_, rfl, by have := HO.out; rw [List.take_of_length_le (by rw [HL.out]; omega)] at this; exact this, hb⟩

section
variable {base : List F} {needs targets : List ByteArray} {own : List F}
theorem has_only {x : ByteArray} (h : inT needs x = true) : has (onlyF base needs) x = has base x := by
  rw [Bool.eq_iff_iff, has_iff, has_iff]
  constructor
  · rintro ⟨f, hf, e⟩; exact ⟨f, (List.mem_filter.1 hf).1, e⟩
  · rintro ⟨f, hf, e⟩; exact ⟨f, List.mem_filter.2 ⟨hf, by rw [e]; exact h⟩, e⟩
theorem text_only {x : ByteArray} (hr : Rises base) (h : inT needs x = true) : textF (onlyF base needs) x = textF base x := by
  cases e : has base x with
  | true =>
    obtain ⟨f, hf, rfl⟩ := has_iff.1 e
    have hm : f ∈ onlyF base needs := List.mem_filter.2 ⟨hf, h⟩
    have hr' : Rises (onlyF base needs) := hr.filter _
    rw [textF_of hr hf, textF_of hr' hm]
  | false => rw [textF_none e, textF_none (by rw [has_only h]; exact e)]
theorem rErr_only (x : ByteArray) : rErr (onlyF base needs) needs own x = rErr base needs own x := by
  unfold rErr
  by_cases h : inT needs x = true
  · rw [has_only h]
  · simp [h]
theorem rText_only (hr : Rises base) (x : ByteArray) : rText (onlyF base needs) needs own x = rText base needs own x := by
  unfold rText
  by_cases h : inT needs x = true
  · rw [text_only hr h]
  · simp [h]
theorem passR_only (hr : Rises base) (f : ByteArray → ByteArray) (a b : ByteArray) : passR (onlyF base needs) needs targets own f a b = passR base needs targets own f a b := by
  unfold passR; rw [rErr_only, rText_only hr]
theorem catR_only (hr : Rises base) (l : List ByteArray) : catR (onlyF base needs) needs own l = catR base needs own l := by
  induction l with
  | nil => rfl
  | cons n l ih => unfold catR; rw [rErr_only, rText_only hr, ih]
theorem runR_only (hr : Rises base) (ws : List ByteArray) : runR (onlyF base needs) needs targets own ws = runR base needs targets own ws := by
  unfold runR joinR needR
  simp only [passR_only hr, catR_only hr, rErr_only, rText_only hr]
theorem allR_only (hr : Rises base) (cmds : List ByteArray) : ∀ own : List F, allR (onlyF base needs) needs targets cmds own = allR base needs targets cmds own := by
  induction cmds with
  | nil => intro own; rfl
  | cons c cs ih => intro own; unfold allR; rw [runR_only hr, ih]
/-- Only targets are written. -/
def OwnT (targets : List ByteArray) (own : List F) : Prop := Rises own ∧ ∀ f ∈ own, inT targets f.1 = true
theorem wOwn_T (h : OwnT targets own) (out text : ByteArray) : OwnT targets (wOwn targets own out text) := by
  unfold wOwn
  split
  · rename_i hin
    split
    · exact h
    · refine ⟨rises_put h.1 _, fun f hf => ?_⟩
      rcases (mem_put h.1).1 hf with rfl | hf
      · exact hin
      · exact h.2 f hf.1
  · exact h
theorem runR_T (h : OwnT targets own) (ws : List ByteArray) : OwnT targets (runR base needs targets own ws).2 := by
  unfold runR passR joinR
  repeat (first | exact wOwn_T h _ _ | exact h | split)
theorem allR_T (cmds : List ByteArray) : ∀ own : List F, OwnT targets own → OwnT targets (allR base needs targets cmds own).2 := by
  induction cmds with
  | nil =>
    intro own h
    unfold allR
    split
    · exact ⟨List.Pairwise.nil, by simp⟩
    · exact h
  | cons c cs ih =>
    intro own h
    unfold allR
    split
    · exact ih _ (runR_T h _)
    · exact ⟨List.Pairwise.nil, by simp⟩
theorem small_only (h : Small base needs targets []) : Small (onlyF base needs) needs targets [] :=
  ⟨h.rb.filter _, h.ro, Nat.le_trans (onlyF_le _ _) h.lb, h.lo, h.ln, h.lt, fun f hf => h.sb f (List.mem_filter.1 hf).1, h.so⟩
end
end Go.Proofs.YtmadegpbinnnfaaDoor
