/-
  PLAIN: what a command comes to, by its words: the number of what is wrong and the files that are written then. Under no condition on any program.
-/
import Derived.Test.YtmadegpbinnnfaaDoorBytes
import Derived.Test.YtmadegpbinnnfaaDoorSplit
namespace Go.Proofs.YtmadegpbinnnfaaDoor
open Go.RowKit

/-- The word at a place. -/
def wd (ws : List ByteArray) (i : Nat) : ByteArray := ws.getD i ByteArray.empty
theorem wd_at {ws : List ByteArray} {i : Nat} (h : i < ws.length) : ws[i]? = some (wd ws i) := by
  unfold wd
  rw [List.getD_eq_getElem?_getD, List.getElem?_eq_getElem h]; rfl
def cPut : ByteArray := ⟨#[112, 117, 116]⟩
def cCopy : ByteArray := ⟨#[99, 111, 112, 121]⟩
def cTurn : ByteArray := ⟨#[116, 117, 114, 110]⟩
def cSwap : ByteArray := ⟨#[115, 119, 97, 112]⟩
def cJoin : ByteArray := ⟨#[106, 111, 105, 110]⟩
def cNeed : ByteArray := ⟨#[110, 101, 101, 100]⟩
def cFail : ByteArray := ⟨#[102, 97, 105, 108]⟩
def joinT (xs : List ByteArray) : ByteArray := ⟨(Lib.join (xs.map (·.data.toList)) [32]).toArray⟩

section
variable (base : List F) (needs targets : List ByteArray) (own : List F)
def writeR (out text : ByteArray) : Int × List F := (wErr targets out text, wOwn targets own out text)
def passR (f : ByteArray → ByteArray) (inn out : ByteArray) : Int × List F :=
  if rErr base needs own inn = 0 then writeR targets own out (f (rText base needs own inn)) else (rErr base needs own inn, own)
def catR : List ByteArray → Int × ByteArray
  | [] => (0, ByteArray.empty)
  | n :: r => if rErr base needs own n = 0 then (if (catR r).1 = 0 then (0, rText base needs own n ++ (catR r).2) else ((catR r).1, ByteArray.empty)) else (rErr base needs own n, ByteArray.empty)
def joinR (out : ByteArray) (ins : List ByteArray) : Int × List F :=
  if (catR base needs own ins).1 = 0 then writeR targets own out (catR base needs own ins).2 else ((catR base needs own ins).1, own)
def needR (inn : ByteArray) : Int := if rErr base needs own inn = 0 then (if (rText base needs own inn).size = 0 then 7 else 0) else rErr base needs own inn
/-- What a command of these words comes to. -/
def runR (ws : List ByteArray) : Int × List F :=
  if wd ws 0 = cPut ∧ 3 ≤ ws.length then writeR targets own (wd ws 1) (joinT (ws.drop 2))
  else if wd ws 0 = cCopy ∧ ws.length = 3 then passR base needs targets own id (wd ws 1) (wd ws 2)
  else if wd ws 0 = cTurn ∧ ws.length = 3 then passR base needs targets own revT (wd ws 1) (wd ws 2)
  else if wd ws 0 = cSwap ∧ ws.length = 5 ∧ (wd ws 3).size = 1 ∧ (wd ws 4).size = 1 then passR base needs targets own (fun s => swT s (byteAt (wd ws 3) 0) (byteAt (wd ws 4) 0)) (wd ws 1) (wd ws 2)
  else if wd ws 0 = cJoin ∧ 3 ≤ ws.length then joinR base needs targets own (wd ws 1) (ws.drop 2)
  else if wd ws 0 = cNeed ∧ ws.length = 2 then (needR base needs own (wd ws 1), own)
  else if wd ws 0 = cFail ∧ ws.length = 1 then (7, own)
  else (4, own)
end
section
variable {base : List F} {needs targets : List ByteArray} {own : List F}
theorem writeR_nn (out text : ByteArray) : 0 ≤ (writeR targets own out text).1 := wErr_nn _ _ _
theorem passR_nn (f : ByteArray → ByteArray) (inn out : ByteArray) : 0 ≤ (passR base needs targets own f inn out).1 := by
  unfold passR
  split
  · exact writeR_nn _ _
  · exact rErr_nn _ _ _ _
theorem catR_nn (l : List ByteArray) : 0 ≤ (catR base needs own l).1 := by
  induction l with
  | nil => simp [catR]
  | cons n l ih =>
    unfold catR
    split
    · split
      · simp
      · exact ih
    · exact rErr_nn _ _ _ _
theorem joinR_nn (out : ByteArray) (ins : List ByteArray) : 0 ≤ (joinR base needs targets own out ins).1 := by
  unfold joinR
  split
  · exact writeR_nn _ _
  · exact catR_nn _
theorem needR_nn (inn : ByteArray) : 0 ≤ needR base needs own inn := by
  unfold needR
  split
  · split <;> omega
  · exact rErr_nn _ _ _ _
theorem runR_nn (ws : List ByteArray) : 0 ≤ (runR base needs targets own ws).1 := by
  unfold runR
  repeat (first | exact writeR_nn _ _ | exact passR_nn _ _ _ | exact joinR_nn _ _ | exact needR_nn _ | (show (0 : Int) ≤ 7; omega) | (show (0 : Int) ≤ 4; omega) | split)
/-- What is written stays sorted, and grows by one at most. -/
def Grows (own own' : List F) : Prop := Rises own' ∧ own'.length ≤ own.length + 1 ∧ ∀ f ∈ own', f ∈ own ∨ f.2.size ≤ 20
theorem Grows.same (h : Rises own) : Grows own own := ⟨h, by omega, fun _ hf => .inl hf⟩
theorem wOwn_grows (h : Rises own) (out text : ByteArray) : Grows own (wOwn targets own out text) := by
  unfold wOwn
  split
  · split
    · exact Grows.same h
    · rename_i h20
      refine ⟨rises_put h _, len_put_le h _, fun f hf => ?_⟩
      rcases (mem_put h).1 hf with rfl | hf
      · exact .inr (by simpa using h20)
      · exact .inl hf.1
  · exact Grows.same h
theorem runR_grows (h : Rises own) (ws : List ByteArray) : Grows own (runR base needs targets own ws).2 := by
  unfold runR passR joinR
  repeat (first | exact wOwn_grows h _ _ | exact Grows.same h | split)
end
end Go.Proofs.YtmadegpbinnnfaaDoor
