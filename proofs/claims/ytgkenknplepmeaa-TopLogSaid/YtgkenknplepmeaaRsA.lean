/-
  WORDS: what encoding and parsing a change come to, in one form; same of an error by its number.
-/
import Derived.Test.YtgkenknplepmeaaCof
import Derived.Test.YtgkenknplepmeaaRwE
import Derived.Test.YtgkenknplepmeaaSame
namespace Go.Proofs.Ytgkenknplepmeaa
open Go.RowKit

theorem same_erV (k : Int) (hk : k = 0 ∨ 0 < k) (w : World) : Calls Try.prog 16 #[erV k, .int .i64 k] w fun e w' => e = .returned (.bool true) ∧ w = w' := by
  rcases hk with rfl | hk
  · exact same_nil w
  · rw [show erV k = .iface 96 (.int .i64 k) from if_neg (by omega)]
    exact same_err k hk w
/-- What the two encoders give, in one form. -/
def encS (c : Ch) : ByteArray := if ckR c = 0 then encR c else ByteArray.empty
theorem encV_eq (c : Ch) : encV c = .tuple #[.string (encS c), erV (ckR c)] := by
  unfold encV encS
  by_cases h : ckR c = 0
  · rw [if_pos h, if_pos h, h]; rfl
  · rw [if_neg h, if_neg h]
theorem cbV_eq (c : Ch) : cbV c = .tuple #[.string (encS c), .int .i64 (ckR c)] := by
  unfold cbV encS
  by_cases h : ckR c = 0
  · rw [if_pos h, if_pos h, h]
  · rw [if_neg h, if_neg h]; rfl
/-- What the two parsers give, in one form. -/
def parCh (s : ByteArray) : Ch := if parB s then parC s else ⟨ByteArray.empty, ByteArray.empty, false⟩
def parN (s : ByteArray) : Int := if parB s then 0 else 4
theorem parV_eq (s : ByteArray) : parV s = .tuple #[.agg #[.string (parCh s).key, .string (parCh s).val, .bool (parCh s).gone], erV (parN s)] := by
  unfold parV parCh parN
  split <;> rfl
theorem ofV_eq (s : ByteArray) : ofV s = .tuple #[.agg #[.string (parCh s).key, .string (parCh s).val, .bool (parCh s).gone], .int .i64 (parN s)] := by
  unfold ofV parCh parN
  split <;> rfl
theorem parN_cases (s : ByteArray) : parN s = 0 ∨ 0 < parN s := by
  unfold parN
  split
  · exact .inl rfl
  · exact .inr (by omega)
end Go.Proofs.Ytgkenknplepmeaa
