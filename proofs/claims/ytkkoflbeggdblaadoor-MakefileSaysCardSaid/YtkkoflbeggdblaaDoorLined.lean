/-
  hammerpondref.lined whole: what a line makes of a description (lineR).
-/
import Derived.Test.YtkkoflbeggdblaaDoorLinedB
import Derived.Test.YtkkoflbeggdblaaDoorLinedC
import Derived.Test.YtkkoflbeggdblaaDoorLinedD
namespace Go.Proofs.YtkkoflbeggdblaaDoor
open Go.RowKit

theorem lined_any (m : Mk) (vv vr vp : Value) (R : List Row3) (s : ByteArray) (w : World) (h : MkRd w m vv vr vp R) (hs : Sane m 700) (hf : Few m) (hz : s.size ≤ 600) :
    Calls Tryd.prog 49 #[.agg #[vv, vr, vp], .string s] w (LnPost (lineR m s) m vv vr vp R w) := by
  cases hnote : noteB s with
  | true => exact lined_note m vv vr vp R s w h hs hf hz hnote
  | false =>
    cases htab : Lib.hasPrefix s.data.toList [9] with
    | true => exact lined_cmd m vv vr vp R s w h hs hf hz hnote htab
    | false =>
      cases hph : Lib.hasPrefix s.data.toList phB with
      | true => exact lined_phony m vv vr vp R s w h hs hf hz hnote htab hph
      | false =>
        cases hcut : (Lib.cut s.data.toList [32, 61, 32]).2.2 with
        | true => exact lined_var m vv vr vp R s w h hs hf hz hnote htab hph hcut
        | false => exact lined_rule m vv vr vp R s w h hs hf hz hnote htab hph hcut
end Go.Proofs.YtkkoflbeggdblaaDoor
