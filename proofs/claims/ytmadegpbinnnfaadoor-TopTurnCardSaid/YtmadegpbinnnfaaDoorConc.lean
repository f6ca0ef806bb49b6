/-
  PLAIN: what the named commands of the statements come to, reckoned. Under no condition on any program.
-/
import Derived.Test.YtmadegpbinnnfaaDoorAllSpec
namespace Go.Proofs.YtmadegpbinnnfaaDoor
open Go.RowKit

theorem words_turn_ab : words ⟨#[116, 117, 114, 110, 32, 97, 32, 98]⟩ = [cTurn, ⟨#[97]⟩, ⟨#[98]⟩] := of_data (by rw [words_data]; decide)
theorem words_turn_bc : words ⟨#[116, 117, 114, 110, 32, 98, 32, 99]⟩ = [cTurn, ⟨#[98]⟩, ⟨#[99]⟩] := of_data (by rw [words_data]; decide)
theorem words_copy_ab : words ⟨#[99, 111, 112, 121, 32, 97, 32, 98]⟩ = [cCopy, ⟨#[97]⟩, ⟨#[98]⟩] := of_data (by rw [words_data]; decide)
theorem words_join_ca : words ⟨#[106, 111, 105, 110, 32, 99, 32, 97]⟩ = [cJoin, ⟨#[99]⟩, ⟨#[97]⟩] := of_data (by rw [words_data]; decide)
theorem runR_turn (base : List F) (needs targets : List ByteArray) (own : List F) (a b : ByteArray) : runR base needs targets own [cTurn, a, b] = passR base needs targets own revT a b := by
  simp [runR, wd, cPut, cCopy, cTurn]
theorem runR_copy (base : List F) (needs targets : List ByteArray) (own : List F) (a b : ByteArray) : runR base needs targets own [cCopy, a, b] = passR base needs targets own id a b := by
  simp [runR, wd, cPut, cCopy]
theorem runR_join (base : List F) (needs targets : List ByteArray) (own : List F) (a b : ByteArray) : runR base needs targets own [cJoin, a, b] = joinR base needs targets own a [b] := by
  simp [runR, wd, cPut, cCopy, cTurn, cSwap, cJoin]
theorem putF_nil (x : F) : putF [] x = [x] := by simp [putF, lo, hi]
theorem all_recipes : allR [(⟨#[97]⟩, ⟨#[120, 121]⟩)] [⟨#[97]⟩] [⟨#[98]⟩] [⟨#[116, 117, 114, 110, 32, 97, 32, 98]⟩] [] = (0, [(⟨#[98]⟩, ⟨#[121, 120]⟩)]) := by
  have e : runR [(⟨#[97]⟩, ⟨#[120, 121]⟩)] [⟨#[97]⟩] [⟨#[98]⟩] [] (words ⟨#[116, 117, 114, 110, 32, 97, 32, 98]⟩) = (0, [(⟨#[98]⟩, ⟨#[121, 120]⟩)]) := by
    rw [words_turn_ab, runR_turn]
    simp [passR, writeR, wErr, wOwn, rErr, rText, has, inT, textF, putF_nil, revT, ByteArray.size]
  rw [allR, e]; simp [allR]
theorem all_barred : allR [(⟨#[97]⟩, ⟨#[120]⟩)] [] [⟨#[98]⟩] [⟨#[99, 111, 112, 121, 32, 97, 32, 98]⟩] [] = (6, []) := by
  have e : runR [(⟨#[97]⟩, ⟨#[120]⟩)] [] [⟨#[98]⟩] [] (words ⟨#[99, 111, 112, 121, 32, 97, 32, 98]⟩) = (6, []) := by
    rw [words_copy_ab, runR_copy]
    simp [passR, rErr, has, inT]
  rw [allR, e]; simp
theorem lt_bc : lt ⟨#[98]⟩ ⟨#[99]⟩ = true := by rw [lt, ByteArray.toList_eq, ByteArray.toList_eq]; decide
theorem putF_bc (s t : ByteArray) : putF [(⟨#[98]⟩, s)] (⟨#[99]⟩, t) = [(⟨#[98]⟩, s), (⟨#[99]⟩, t)] := by
  have h2 := lt_asymm lt_bc
  simp [putF, lo, hi, lt_bc, h2]
theorem revT_size' (t : ByteArray) : (revT t).size = t.size := by
  have : (revT t).data.toList.length = t.data.toList.length := by simp [revT]
  simpa using this
theorem revT_revT (t : ByteArray) : revT (revT t) = t := by
  obtain ⟨⟨x⟩⟩ := t
  simp [revT]
theorem all_long (t : ByteArray) (h : 20 < t.size) : allR [(⟨#[97]⟩, t)] [⟨#[97]⟩] [⟨#[98]⟩, ⟨#[99]⟩] [⟨#[116, 117, 114, 110, 32, 97, 32, 98]⟩, ⟨#[116, 117, 114, 110, 32, 98, 32, 99]⟩] [] = (2, []) := by
  have e : runR [(⟨#[97]⟩, t)] [⟨#[97]⟩] [⟨#[98]⟩, ⟨#[99]⟩] [] (words ⟨#[116, 117, 114, 110, 32, 97, 32, 98]⟩) = (2, []) := by
    rw [words_turn_ab, runR_turn]
    simp [passR, writeR, wErr, wOwn, rErr, rText, has, inT, textF, revT_size', h]
  rw [allR, e]; simp
theorem all_turn (t : ByteArray) (h : ¬ 20 < t.size) : allR [(⟨#[97]⟩, t)] [⟨#[97]⟩] [⟨#[98]⟩, ⟨#[99]⟩] [⟨#[116, 117, 114, 110, 32, 97, 32, 98]⟩, ⟨#[116, 117, 114, 110, 32, 98, 32, 99]⟩] [] = (0, [(⟨#[98]⟩, revT t), (⟨#[99]⟩, t)]) := by
  have e : runR [(⟨#[97]⟩, t)] [⟨#[97]⟩] [⟨#[98]⟩, ⟨#[99]⟩] [] (words ⟨#[116, 117, 114, 110, 32, 97, 32, 98]⟩) = (0, [(⟨#[98]⟩, revT t)]) := by
    rw [words_turn_ab, runR_turn]
    simp [passR, writeR, wErr, wOwn, rErr, rText, has, inT, textF, revT_size', h, putF_nil]
  have e2 : runR [(⟨#[97]⟩, t)] [⟨#[97]⟩] [⟨#[98]⟩, ⟨#[99]⟩] [(⟨#[98]⟩, revT t)] (words ⟨#[116, 117, 114, 110, 32, 98, 32, 99]⟩) = (0, [(⟨#[98]⟩, revT t), (⟨#[99]⟩, t)]) := by
    rw [words_turn_bc, runR_turn]
    simp [passR, writeR, wErr, wOwn, rErr, rText, has, inT, textF, revT_size', revT_revT, h, putF_bc]
  rw [allR, e]; simp only [if_true]; rw [allR, e2]; simp [allR]
theorem app_nil' (a : ByteArray) : a ++ ByteArray.empty = a := by
  obtain ⟨⟨x⟩⟩ := a
  have : ∀ a b : ByteArray, (a ++ b).data.toList = a.data.toList ++ b.data.toList := fun a b => by simp
  have h := this ⟨⟨x⟩⟩ ByteArray.empty
  generalize (⟨⟨x⟩⟩ : ByteArray) ++ ByteArray.empty = y at h
  obtain ⟨⟨y⟩⟩ := y
  have e : y = x := by simpa using h
  rw [e]
theorem all_copy (t : ByteArray) (h : ¬ 20 < t.size) : allR [(⟨#[97]⟩, t)] [⟨#[97]⟩] [⟨#[98]⟩, ⟨#[99]⟩] [⟨#[99, 111, 112, 121, 32, 97, 32, 98]⟩, ⟨#[106, 111, 105, 110, 32, 99, 32, 97]⟩] [] = (0, [(⟨#[98]⟩, t), (⟨#[99]⟩, t)]) := by
  have e : runR [(⟨#[97]⟩, t)] [⟨#[97]⟩] [⟨#[98]⟩, ⟨#[99]⟩] [] (words ⟨#[99, 111, 112, 121, 32, 97, 32, 98]⟩) = (0, [(⟨#[98]⟩, t)]) := by
    rw [words_copy_ab, runR_copy]
    simp [passR, writeR, wErr, wOwn, rErr, rText, has, inT, textF, h, putF_nil]
  have e2 : runR [(⟨#[97]⟩, t)] [⟨#[97]⟩] [⟨#[98]⟩, ⟨#[99]⟩] [(⟨#[98]⟩, t)] (words ⟨#[106, 111, 105, 110, 32, 99, 32, 97]⟩) = (0, [(⟨#[98]⟩, t), (⟨#[99]⟩, t)]) := by
    rw [words_join_ca, runR_join]
    simp [joinR, catR, app_nil', writeR, wErr, wOwn, rErr, rText, has, inT, textF, h, putF_bc]
  rw [allR, e]; simp only [if_true]; rw [allR, e2]; simp [allR]
end Go.Proofs.YtmadegpbinnnfaaDoor
