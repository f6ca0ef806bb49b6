/-
  No cell of these rows narrows 'for every input' (looked for: loops, veiled, ifaces, maps, wideKeys, modest, calm, conditions, laid).
  DERIVED. THE GIVEN ROWS OF THIS SEAT. 6 by the template 'for every input the law returns true; each argument reads behind the call as it read before'; 0 by the template 'total and deterministic' (their statements: YtocodapegeajoaaTotals.lean).
  GIVEN WITH THE SEED: the statements are not yours to turn. If you find one false, say at which input.
  Laid BY PROGRAM, IN A SANDBOX (cutbox-rows.mjs): the forced cells as the released guide's own fill.sh prints them over the translation ca5a84915f669230… (all of the seat's roots in one cut). By AI agents, Wed Nov 11 2026. No macro, syntax, notation, axiom, sorry.
-/
import Derived.Test.YtocodapegeajoaaChecked
import GoSem.Claim
import GoSem.ClaimJoined
import GoSem.ClaimMapViews
import Derived.JoinedTies
import Derived.KernelRfl
namespace Go.Proofs.Ytocodapegeajoaa
/- THE CELL 'sum', in the pinned program and in every row, IS THE sha256 OF THE DUMP (.gsa) THAT YtocodapegeajoaaProg.lean LOADS. Nothing in Lean hashes anything: it is a label: what it is worth is what the hold of that sum in a sandbox is worth. -/
noncomputable def Try.pinned : Pinned := { name := "ytocodapegeajoaa", sum := "ca5a84915f6692300be1068c4603a7e15e04c98b1372ca548ae6ffc6d199f935", checked := Try.checked }
namespace Rows
def none {H : Type} : Left H := { results := [], args := [] }

/-- 'hammerpondlaw.FilesSays': WHATEVER THE INPUT: true; the input reads as it did. -/
def filesSaysSpec : ChangeSpec := { name := "filesSays", fn := fun _ => fun
  | [d1, d2] => { results := [.lit (.bool true)], args := [d1, d2] }
  | _ => none }
def filesSaysRow : OpenClaim := { program := "ytocodapegeajoaa", sum := "ca5a84915f6692300be1068c4603a7e15e04c98b1372ca548ae6ffc6d199f935", func := "hammerpond/hammerpondlaw.FilesSays", spec := "filesSays", unfollowed := true, recurses := true, plainKeys := false, apart := false }
def FilesSaysSaid : Prop := filesSaysRow.holds Try.pinned (OpenSpec.ofChange filesSaysSpec)

/-- ITS FALSE NEIGHBOUR: 'it returns false'. Refute it at one input. -/
def filesSaysWrong : ChangeSpec := { name := "filesSays", fn := fun _ => fun
  | [d1, d2] => { results := [.lit (.bool false)], args := [d1, d2] }
  | _ => none }
def FilesSaysWrongFalsely : Prop := filesSaysRow.holds Try.pinned (OpenSpec.ofChange filesSaysWrong)

/-- 'hammerpondlaw.OverlaySays': WHATEVER THE INPUT: true; the input reads as it did. -/
def overlaySaysSpec : ChangeSpec := { name := "overlaySays", fn := fun _ => fun
  | [d1, d2, d3, d4] => { results := [.lit (.bool true)], args := [d1, d2, d3, d4] }
  | _ => none }
def overlaySaysRow : OpenClaim := { program := "ytocodapegeajoaa", sum := "ca5a84915f6692300be1068c4603a7e15e04c98b1372ca548ae6ffc6d199f935", func := "hammerpond/hammerpondlaw.OverlaySays", spec := "overlaySays", unfollowed := true, recurses := true, plainKeys := false, apart := false }
def OverlaySaysSaid : Prop := overlaySaysRow.holds Try.pinned (OpenSpec.ofChange overlaySaysSpec)

/-- ITS FALSE NEIGHBOUR: 'it returns false'. Refute it at one input. -/
def overlaySaysWrong : ChangeSpec := { name := "overlaySays", fn := fun _ => fun
  | [d1, d2, d3, d4] => { results := [.lit (.bool false)], args := [d1, d2, d3, d4] }
  | _ => none }
def OverlaySaysWrongFalsely : Prop := overlaySaysRow.holds Try.pinned (OpenSpec.ofChange overlaySaysWrong)

/-- 'hammerpondtop.TopFiles': WHATEVER THE INPUT: true; the input reads as it did. -/
def topFilesSpec : ChangeSpec := { name := "topFiles", fn := fun _ => fun
  | [d1, d2, d3] => { results := [.lit (.bool true)], args := [d1, d2, d3] }
  | _ => none }
def topFilesRow : OpenClaim := { program := "ytocodapegeajoaa", sum := "ca5a84915f6692300be1068c4603a7e15e04c98b1372ca548ae6ffc6d199f935", func := "hammerpond/hammerpondtop.TopFiles", spec := "topFiles", unfollowed := true, recurses := true, plainKeys := false, apart := false }
def TopFilesSaid : Prop := topFilesRow.holds Try.pinned (OpenSpec.ofChange topFilesSpec)

/-- ITS FALSE NEIGHBOUR: 'it returns false'. Refute it at one input. -/
def topFilesWrong : ChangeSpec := { name := "topFiles", fn := fun _ => fun
  | [d1, d2, d3] => { results := [.lit (.bool false)], args := [d1, d2, d3] }
  | _ => none }
def TopFilesWrongFalsely : Prop := topFilesRow.holds Try.pinned (OpenSpec.ofChange topFilesWrong)

/-- 'hammerpondlaw.ExpandSays': WHATEVER THE INPUT: true; the input reads as it did. -/
def expandSaysSpec : ChangeSpec := { name := "expandSays", fn := fun _ => fun
  | [d1, d2, d3, d4, d5, d6, d7] => { results := [.lit (.bool true)], args := [d1, d2, d3, d4, d5, d6, d7] }
  | _ => none }
def expandSaysRow : OpenClaim := { program := "ytocodapegeajoaa", sum := "ca5a84915f6692300be1068c4603a7e15e04c98b1372ca548ae6ffc6d199f935", func := "hammerpond/hammerpondlaw.ExpandSays", spec := "expandSays", inPlace := ["internal/bytealg.IndexByteString", "internal/bytealg.IndexString", "internal/abi.NoEscape", "internal/bytealg.MakeNoZero", "sync/atomic.LoadUint32", "(*internal/sync.Mutex).Lock", "internal/race.Disable", "sync/atomic.CompareAndSwapInt32", "internal/race.Enable", "internal/race.Acquire", "(*internal/sync.Mutex).lockSlow", "internal/sync.runtime_canSpin", "internal/sync.runtime_doSpin", "internal/sync.throw", "internal/sync.runtime_nanotime", "internal/sync.runtime_SemacquireMutex", "sync/atomic.AddInt32", "(*internal/sync.Mutex).Unlock", "internal/race.ReleaseMerge", "(*internal/sync.Mutex).unlockSlow", "internal/sync.fatal", "internal/sync.runtime_Semrelease", "sync/atomic.StoreUint32"], unfollowed := true, recurses := true, named := ["internal/bytealg.MaxLen"], plainKeys := false, apart := false }
def ExpandSaysSaid : Prop := expandSaysRow.holds Try.pinned (OpenSpec.ofChange expandSaysSpec)

/-- ITS FALSE NEIGHBOUR: 'it returns false'. Refute it at one input. -/
def expandSaysWrong : ChangeSpec := { name := "expandSays", fn := fun _ => fun
  | [d1, d2, d3, d4, d5, d6, d7] => { results := [.lit (.bool false)], args := [d1, d2, d3, d4, d5, d6, d7] }
  | _ => none }
def ExpandSaysWrongFalsely : Prop := expandSaysRow.holds Try.pinned (OpenSpec.ofChange expandSaysWrong)

/-- 'hammerpondtop.TopExpand': WHATEVER THE INPUT: true; the input reads as it did. -/
def topExpandSpec : ChangeSpec := { name := "topExpand", fn := fun _ => fun
  | [d1, d2, d3] => { results := [.lit (.bool true)], args := [d1, d2, d3] }
  | _ => none }
def topExpandRow : OpenClaim := { program := "ytocodapegeajoaa", sum := "ca5a84915f6692300be1068c4603a7e15e04c98b1372ca548ae6ffc6d199f935", func := "hammerpond/hammerpondtop.TopExpand", spec := "topExpand", inPlace := ["internal/bytealg.IndexByteString", "internal/bytealg.IndexString"], unfollowed := true, recurses := true, named := ["internal/bytealg.MaxLen"], plainKeys := false, apart := false }
def TopExpandSaid : Prop := topExpandRow.holds Try.pinned (OpenSpec.ofChange topExpandSpec)

/-- ITS FALSE NEIGHBOUR: 'it returns false'. Refute it at one input. -/
def topExpandWrong : ChangeSpec := { name := "topExpand", fn := fun _ => fun
  | [d1, d2, d3] => { results := [.lit (.bool false)], args := [d1, d2, d3] }
  | _ => none }
def TopExpandWrongFalsely : Prop := topExpandRow.holds Try.pinned (OpenSpec.ofChange topExpandWrong)

/-- 'hammerpondtop.TopStem': WHATEVER THE INPUT: true; the input reads as it did. -/
def topStemSpec : ChangeSpec := { name := "topStem", fn := fun _ => fun
  | [d1, d2, d3, d4] => { results := [.lit (.bool true)], args := [d1, d2, d3, d4] }
  | _ => none }
def topStemRow : OpenClaim := { program := "ytocodapegeajoaa", sum := "ca5a84915f6692300be1068c4603a7e15e04c98b1372ca548ae6ffc6d199f935", func := "hammerpond/hammerpondtop.TopStem", spec := "topStem", inPlace := ["internal/bytealg.IndexByteString", "internal/bytealg.IndexString"], named := ["internal/bytealg.MaxLen"], plainKeys := false, apart := false }
def TopStemSaid : Prop := topStemRow.holds Try.pinned (OpenSpec.ofChange topStemSpec)

/-- ITS FALSE NEIGHBOUR: 'it returns false'. Refute it at one input. -/
def topStemWrong : ChangeSpec := { name := "topStem", fn := fun _ => fun
  | [d1, d2, d3, d4] => { results := [.lit (.bool false)], args := [d1, d2, d3, d4] }
  | _ => none }
def TopStemWrongFalsely : Prop := topStemRow.holds Try.pinned (OpenSpec.ofChange topStemWrong)

/- THE SECOND FORM. 'bulk': how many values and letters a reading holds, each counted each time it is reached (what is shared counts as often as it is met; a slice's spare places count too). A statement '..UptoSaid' is the law's where the arguments, and the package variables that the reading takes, are together of bulk at most 1048576: NARROWER than '..Said'. Prove '..Said' where nothing that the law and all that it calls make is longer than what came in: it says more and counts as full. Else prove '..UptoSaid'. A law counts once. -/
mutual
def uptoBulk {H : Type} : DataW H → Nat
  | .lit (.string bytes) => bytes.length + 1
  | .lit _ => 1
  | .nil => 1
  | .ptr d => uptoBulk d + 1
  | .slice elems spare => uptoBulkAll elems + uptoBulkAll spare + 1
  | .agg parts => uptoBulkAll parts + 1
  | .iface _ d => uptoBulk d + 1
  | .map entries => uptoBulkEntries entries + 1
  | .held _ => 1
def uptoBulkAll {H : Type} : List (DataW H) → Nat
  | [] => 0
  | d :: r => uptoBulk d + uptoBulkAll r
def uptoBulkEntries {H : Type} : List (Lit × DataW H) → Nat
  | [] => 0
  | x :: r => uptoBulkEntry x + uptoBulkEntries r
def uptoBulkEntry {H : Type} : Lit × DataW H → Nat
  | (.string bytes, d) => bytes.length + uptoBulk d + 1
  | (_, d) => uptoBulk d + 1
 end
def uptoSmall : (H : Type) → List (DataW H) → Bool := fun _ ds => decide (uptoBulkAll ds ≤ 1048576)
def OpenSpec.upto (s : _root_.Go.ChangeSpec) : _root_.Go.OpenSpec := { _root_.Go.OpenSpec.ofChange s with cond := some uptoSmall }

/-- 'hammerpondlaw.FilesSays', WHERE WHAT IT READS IS OF BULK AT MOST 1048576: true; the input reads as it did. -/
def filesSaysUptoRow : OpenClaim := { program := "ytocodapegeajoaa", sum := "ca5a84915f6692300be1068c4603a7e15e04c98b1372ca548ae6ffc6d199f935", func := "hammerpond/hammerpondlaw.FilesSays", spec := "filesSays", unfollowed := true, recurses := true, plainKeys := false, apart := false, narrowed := true }
def FilesSaysUptoSaid : Prop := filesSaysUptoRow.holds Try.pinned (OpenSpec.upto filesSaysSpec)

/-- 'hammerpondlaw.OverlaySays', WHERE WHAT IT READS IS OF BULK AT MOST 1048576: true; the input reads as it did. -/
def overlaySaysUptoRow : OpenClaim := { program := "ytocodapegeajoaa", sum := "ca5a84915f6692300be1068c4603a7e15e04c98b1372ca548ae6ffc6d199f935", func := "hammerpond/hammerpondlaw.OverlaySays", spec := "overlaySays", unfollowed := true, recurses := true, plainKeys := false, apart := false, narrowed := true }
def OverlaySaysUptoSaid : Prop := overlaySaysUptoRow.holds Try.pinned (OpenSpec.upto overlaySaysSpec)

/-- 'hammerpondtop.TopFiles', WHERE WHAT IT READS IS OF BULK AT MOST 1048576: true; the input reads as it did. -/
def topFilesUptoRow : OpenClaim := { program := "ytocodapegeajoaa", sum := "ca5a84915f6692300be1068c4603a7e15e04c98b1372ca548ae6ffc6d199f935", func := "hammerpond/hammerpondtop.TopFiles", spec := "topFiles", unfollowed := true, recurses := true, plainKeys := false, apart := false, narrowed := true }
def TopFilesUptoSaid : Prop := topFilesUptoRow.holds Try.pinned (OpenSpec.upto topFilesSpec)

/-- 'hammerpondlaw.ExpandSays', WHERE WHAT IT READS IS OF BULK AT MOST 1048576: true; the input reads as it did. -/
def expandSaysUptoRow : OpenClaim := { program := "ytocodapegeajoaa", sum := "ca5a84915f6692300be1068c4603a7e15e04c98b1372ca548ae6ffc6d199f935", func := "hammerpond/hammerpondlaw.ExpandSays", spec := "expandSays", inPlace := ["internal/bytealg.IndexByteString", "internal/bytealg.IndexString", "internal/abi.NoEscape", "internal/bytealg.MakeNoZero", "sync/atomic.LoadUint32", "(*internal/sync.Mutex).Lock", "internal/race.Disable", "sync/atomic.CompareAndSwapInt32", "internal/race.Enable", "internal/race.Acquire", "(*internal/sync.Mutex).lockSlow", "internal/sync.runtime_canSpin", "internal/sync.runtime_doSpin", "internal/sync.throw", "internal/sync.runtime_nanotime", "internal/sync.runtime_SemacquireMutex", "sync/atomic.AddInt32", "(*internal/sync.Mutex).Unlock", "internal/race.ReleaseMerge", "(*internal/sync.Mutex).unlockSlow", "internal/sync.fatal", "internal/sync.runtime_Semrelease", "sync/atomic.StoreUint32"], unfollowed := true, recurses := true, named := ["internal/bytealg.MaxLen"], plainKeys := false, apart := false, narrowed := true }
def ExpandSaysUptoSaid : Prop := expandSaysUptoRow.holds Try.pinned (OpenSpec.upto expandSaysSpec)

/-- 'hammerpondtop.TopExpand', WHERE WHAT IT READS IS OF BULK AT MOST 1048576: true; the input reads as it did. -/
def topExpandUptoRow : OpenClaim := { program := "ytocodapegeajoaa", sum := "ca5a84915f6692300be1068c4603a7e15e04c98b1372ca548ae6ffc6d199f935", func := "hammerpond/hammerpondtop.TopExpand", spec := "topExpand", inPlace := ["internal/bytealg.IndexByteString", "internal/bytealg.IndexString"], unfollowed := true, recurses := true, named := ["internal/bytealg.MaxLen"], plainKeys := false, apart := false, narrowed := true }
def TopExpandUptoSaid : Prop := topExpandUptoRow.holds Try.pinned (OpenSpec.upto topExpandSpec)

/-- 'hammerpondtop.TopStem', WHERE WHAT IT READS IS OF BULK AT MOST 1048576: true; the input reads as it did. -/
def topStemUptoRow : OpenClaim := { program := "ytocodapegeajoaa", sum := "ca5a84915f6692300be1068c4603a7e15e04c98b1372ca548ae6ffc6d199f935", func := "hammerpond/hammerpondtop.TopStem", spec := "topStem", inPlace := ["internal/bytealg.IndexByteString", "internal/bytealg.IndexString"], named := ["internal/bytealg.MaxLen"], plainKeys := false, apart := false, narrowed := true }
def TopStemUptoSaid : Prop := topStemUptoRow.holds Try.pinned (OpenSpec.upto topStemSpec)

end Rows
end Go.Proofs.Ytocodapegeajoaa
