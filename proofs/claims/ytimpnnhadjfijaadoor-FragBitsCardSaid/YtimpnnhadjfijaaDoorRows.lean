/-
  NARROWER THAN 'FOR EVERY INPUT', by the rows' own cells (each row's printed sentence says how): FragWrites: laid · FragReads: laid · FragEntries: laid · FragSectors: laid · FragBits: laid · FragCuts: laid.
  DERIVED. THE GIVEN ROWS OF THIS SEAT. 6 by the template 'for every input the law returns true; each argument reads behind the call as it read before'; 0 by the template 'total and deterministic' (their statements: YtimpnnhadjfijaaDoorTotals.lean).
  GIVEN WITH THE SEED: the statements are not yours to turn. If you find one false, say at which input.
  Laid BY PROGRAM, IN A SANDBOX (cutbox-rows.mjs): the forced cells as the released guide's own fill.sh prints them over the translation 5bd79e71791378a6… (all of the seat's roots in one cut). By AI agents, Wed Nov 11 2026. No macro, syntax, notation, axiom, sorry.
-/
import Derived.Test.YtimpnnhadjfijaaDoorChecked
import GoSem.Claim
import GoSem.ClaimJoined
import GoSem.ClaimMapViews
import Derived.JoinedTies
import Derived.KernelRfl
namespace Go.Proofs.YtimpnnhadjfijaaDoor
/- THE CELL 'sum', in the pinned program and in every row, IS THE sha256 OF THE DUMP (.gsa) THAT YtimpnnhadjfijaaDoorProg.lean LOADS. Nothing in Lean hashes anything: it is a label: what it is worth is what the hold of that sum in a sandbox is worth. -/
noncomputable def Tryd.pinned : Pinned := { name := "ytimpnnhadjfijaadoor", sum := "5bd79e71791378a60c64b885427a85fe2faf85d2eca5cddc9d7cbe667d307db3", checked := Tryd.checked }
namespace Rows
def none {H : Type} : Left H := { results := [], args := [] }

/- WHAT THE LISTED PACKAGE-LEVEL VARIABLES READ AS WHEN THE CALL BEGINS. Each datum BY PROGRAM (the guide's laid-datum.mjs) off the statement by which the dump's own 'gosem.cut.vars' lays the variable. In a bare row this is a premise. The card (YtimpnnhadjfijaaDoorCards.lean) ties it to the program's text. -/
def laid_ambry_code_crcSteps {H : Type} : DataW H := .agg [.lit (.int .u32 0), .lit (.int .u32 498536548), .lit (.int .u32 997073096), .lit (.int .u32 651767980), .lit (.int .u32 1994146192), .lit (.int .u32 1802195444), .lit (.int .u32 1303535960), .lit (.int .u32 1342533948), .lit (.int .u32 3988292384), .lit (.int .u32 4027552580), .lit (.int .u32 3604390888), .lit (.int .u32 3412177804), .lit (.int .u32 2607071920), .lit (.int .u32 2262029012), .lit (.int .u32 2685067896), .lit (.int .u32 3183342108)]

/-- 'ambrylaw4.FragWrites': WHATEVER THE INPUT: true; the input reads as it did. -/
def fragWritesSpec : ChangeSpec := { name := "fragWrites", fn := fun _ => fun
  | [d1, d2, d3, d4] => { results := [.lit (.bool true)], args := [d1, d2, d3, d4] }
  | _ => none }
def fragWritesRow : OpenClaim := { program := "ytimpnnhadjfijaadoor", sum := "5bd79e71791378a60c64b885427a85fe2faf85d2eca5cddc9d7cbe667d307db3", func := "ambry/ambrylaw4.FragWrites", spec := "fragWrites", inPlace := ["sync/atomic.LoadUint32", "(*internal/sync.Mutex).Lock", "internal/race.Disable", "sync/atomic.CompareAndSwapInt32", "internal/race.Enable", "internal/race.Acquire", "(*internal/sync.Mutex).lockSlow", "internal/sync.runtime_canSpin", "internal/sync.runtime_doSpin", "internal/sync.throw", "internal/sync.runtime_nanotime", "internal/sync.runtime_SemacquireMutex", "sync/atomic.AddInt32", "(*internal/sync.Mutex).Unlock", "internal/race.ReleaseMerge", "(*internal/sync.Mutex).unlockSlow", "internal/sync.fatal", "internal/sync.runtime_Semrelease", "sync/atomic.StoreUint32"], unfollowed := true, recurses := true, named := ["ambry/code.crcSteps"], apart := false, laid := [("ambry/code.crcSteps", laid_ambry_code_crcSteps)] }
def FragWritesSaid : Prop := fragWritesRow.holds Tryd.pinned (OpenSpec.ofChange fragWritesSpec)

/-- ITS FALSE NEIGHBOUR: 'it returns false'. Refute it at one input. -/
def fragWritesWrong : ChangeSpec := { name := "fragWrites", fn := fun _ => fun
  | [d1, d2, d3, d4] => { results := [.lit (.bool false)], args := [d1, d2, d3, d4] }
  | _ => none }
def FragWritesWrongFalsely : Prop := fragWritesRow.holds Tryd.pinned (OpenSpec.ofChange fragWritesWrong)

/-- 'ambrylaw4.FragReads': WHATEVER THE INPUT: true; the input reads as it did. -/
def fragReadsSpec : ChangeSpec := { name := "fragReads", fn := fun _ => fun
  | [d1, d2, d3, d4, d5, d6] => { results := [.lit (.bool true)], args := [d1, d2, d3, d4, d5, d6] }
  | _ => none }
def fragReadsRow : OpenClaim := { program := "ytimpnnhadjfijaadoor", sum := "5bd79e71791378a60c64b885427a85fe2faf85d2eca5cddc9d7cbe667d307db3", func := "ambry/ambrylaw4.FragReads", spec := "fragReads", inPlace := ["sync/atomic.LoadUint32", "(*internal/sync.Mutex).Lock", "internal/race.Disable", "sync/atomic.CompareAndSwapInt32", "internal/race.Enable", "internal/race.Acquire", "(*internal/sync.Mutex).lockSlow", "internal/sync.runtime_canSpin", "internal/sync.runtime_doSpin", "internal/sync.throw", "internal/sync.runtime_nanotime", "internal/sync.runtime_SemacquireMutex", "sync/atomic.AddInt32", "(*internal/sync.Mutex).Unlock", "internal/race.ReleaseMerge", "(*internal/sync.Mutex).unlockSlow", "internal/sync.fatal", "internal/sync.runtime_Semrelease", "sync/atomic.StoreUint32"], unfollowed := true, recurses := true, named := ["ambry/code.crcSteps"], apart := false, laid := [("ambry/code.crcSteps", laid_ambry_code_crcSteps)] }
def FragReadsSaid : Prop := fragReadsRow.holds Tryd.pinned (OpenSpec.ofChange fragReadsSpec)

/-- ITS FALSE NEIGHBOUR: 'it returns false'. Refute it at one input. -/
def fragReadsWrong : ChangeSpec := { name := "fragReads", fn := fun _ => fun
  | [d1, d2, d3, d4, d5, d6] => { results := [.lit (.bool false)], args := [d1, d2, d3, d4, d5, d6] }
  | _ => none }
def FragReadsWrongFalsely : Prop := fragReadsRow.holds Tryd.pinned (OpenSpec.ofChange fragReadsWrong)

/-- 'ambrylaw4.FragEntries': WHATEVER THE INPUT: true; the input reads as it did. -/
def fragEntriesSpec : ChangeSpec := { name := "fragEntries", fn := fun _ => fun
  | [d1, d2] => { results := [.lit (.bool true)], args := [d1, d2] }
  | _ => none }
def fragEntriesRow : OpenClaim := { program := "ytimpnnhadjfijaadoor", sum := "5bd79e71791378a60c64b885427a85fe2faf85d2eca5cddc9d7cbe667d307db3", func := "ambry/ambrylaw4.FragEntries", spec := "fragEntries", inPlace := ["sync/atomic.LoadUint32", "(*internal/sync.Mutex).Lock", "internal/race.Disable", "sync/atomic.CompareAndSwapInt32", "internal/race.Enable", "internal/race.Acquire", "(*internal/sync.Mutex).lockSlow", "internal/sync.runtime_canSpin", "internal/sync.runtime_doSpin", "internal/sync.throw", "internal/sync.runtime_nanotime", "internal/sync.runtime_SemacquireMutex", "sync/atomic.AddInt32", "(*internal/sync.Mutex).Unlock", "internal/race.ReleaseMerge", "(*internal/sync.Mutex).unlockSlow", "internal/sync.fatal", "internal/sync.runtime_Semrelease", "sync/atomic.StoreUint32"], unfollowed := true, recurses := true, named := ["ambry/code.crcSteps"], apart := false, laid := [("ambry/code.crcSteps", laid_ambry_code_crcSteps)] }
def FragEntriesSaid : Prop := fragEntriesRow.holds Tryd.pinned (OpenSpec.ofChange fragEntriesSpec)

/-- ITS FALSE NEIGHBOUR: 'it returns false'. Refute it at one input. -/
def fragEntriesWrong : ChangeSpec := { name := "fragEntries", fn := fun _ => fun
  | [d1, d2] => { results := [.lit (.bool false)], args := [d1, d2] }
  | _ => none }
def FragEntriesWrongFalsely : Prop := fragEntriesRow.holds Tryd.pinned (OpenSpec.ofChange fragEntriesWrong)

/-- 'ambrylaw4.FragSectors': WHATEVER THE INPUT: true; the input reads as it did. -/
def fragSectorsSpec : ChangeSpec := { name := "fragSectors", fn := fun _ => fun
  | [d1, d2] => { results := [.lit (.bool true)], args := [d1, d2] }
  | _ => none }
def fragSectorsRow : OpenClaim := { program := "ytimpnnhadjfijaadoor", sum := "5bd79e71791378a60c64b885427a85fe2faf85d2eca5cddc9d7cbe667d307db3", func := "ambry/ambrylaw4.FragSectors", spec := "fragSectors", inPlace := ["sync/atomic.LoadUint32", "(*internal/sync.Mutex).Lock", "internal/race.Disable", "sync/atomic.CompareAndSwapInt32", "internal/race.Enable", "internal/race.Acquire", "(*internal/sync.Mutex).lockSlow", "internal/sync.runtime_canSpin", "internal/sync.runtime_doSpin", "internal/sync.throw", "internal/sync.runtime_nanotime", "internal/sync.runtime_SemacquireMutex", "sync/atomic.AddInt32", "(*internal/sync.Mutex).Unlock", "internal/race.ReleaseMerge", "(*internal/sync.Mutex).unlockSlow", "internal/sync.fatal", "internal/sync.runtime_Semrelease", "sync/atomic.StoreUint32"], unfollowed := true, recurses := true, named := ["ambry/code.crcSteps"], apart := false, laid := [("ambry/code.crcSteps", laid_ambry_code_crcSteps)] }
def FragSectorsSaid : Prop := fragSectorsRow.holds Tryd.pinned (OpenSpec.ofChange fragSectorsSpec)

/-- ITS FALSE NEIGHBOUR: 'it returns false'. Refute it at one input. -/
def fragSectorsWrong : ChangeSpec := { name := "fragSectors", fn := fun _ => fun
  | [d1, d2] => { results := [.lit (.bool false)], args := [d1, d2] }
  | _ => none }
def FragSectorsWrongFalsely : Prop := fragSectorsRow.holds Tryd.pinned (OpenSpec.ofChange fragSectorsWrong)

/-- 'ambrylaw4.FragBits': WHATEVER THE INPUT: true; the input reads as it did. -/
def fragBitsSpec : ChangeSpec := { name := "fragBits", fn := fun _ => fun
  | [d1, d2, d3] => { results := [.lit (.bool true)], args := [d1, d2, d3] }
  | _ => none }
def fragBitsRow : OpenClaim := { program := "ytimpnnhadjfijaadoor", sum := "5bd79e71791378a60c64b885427a85fe2faf85d2eca5cddc9d7cbe667d307db3", func := "ambry/ambrylaw4.FragBits", spec := "fragBits", inPlace := ["sync/atomic.LoadUint32", "(*internal/sync.Mutex).Lock", "internal/race.Disable", "sync/atomic.CompareAndSwapInt32", "internal/race.Enable", "internal/race.Acquire", "(*internal/sync.Mutex).lockSlow", "internal/sync.runtime_canSpin", "internal/sync.runtime_doSpin", "internal/sync.throw", "internal/sync.runtime_nanotime", "internal/sync.runtime_SemacquireMutex", "sync/atomic.AddInt32", "(*internal/sync.Mutex).Unlock", "internal/race.ReleaseMerge", "(*internal/sync.Mutex).unlockSlow", "internal/sync.fatal", "internal/sync.runtime_Semrelease", "sync/atomic.StoreUint32"], unfollowed := true, recurses := true, named := ["ambry/code.crcSteps"], apart := false, laid := [("ambry/code.crcSteps", laid_ambry_code_crcSteps)] }
def FragBitsSaid : Prop := fragBitsRow.holds Tryd.pinned (OpenSpec.ofChange fragBitsSpec)

/-- ITS FALSE NEIGHBOUR: 'it returns false'. Refute it at one input. -/
def fragBitsWrong : ChangeSpec := { name := "fragBits", fn := fun _ => fun
  | [d1, d2, d3] => { results := [.lit (.bool false)], args := [d1, d2, d3] }
  | _ => none }
def FragBitsWrongFalsely : Prop := fragBitsRow.holds Tryd.pinned (OpenSpec.ofChange fragBitsWrong)

/-- 'ambrylaw4.FragCuts': WHATEVER THE INPUT: true; the input reads as it did. -/
def fragCutsSpec : ChangeSpec := { name := "fragCuts", fn := fun _ => fun
  | [d1, d2, d3] => { results := [.lit (.bool true)], args := [d1, d2, d3] }
  | _ => none }
def fragCutsRow : OpenClaim := { program := "ytimpnnhadjfijaadoor", sum := "5bd79e71791378a60c64b885427a85fe2faf85d2eca5cddc9d7cbe667d307db3", func := "ambry/ambrylaw4.FragCuts", spec := "fragCuts", inPlace := ["sync/atomic.LoadUint32", "(*internal/sync.Mutex).Lock", "internal/race.Disable", "sync/atomic.CompareAndSwapInt32", "internal/race.Enable", "internal/race.Acquire", "(*internal/sync.Mutex).lockSlow", "internal/sync.runtime_canSpin", "internal/sync.runtime_doSpin", "internal/sync.throw", "internal/sync.runtime_nanotime", "internal/sync.runtime_SemacquireMutex", "sync/atomic.AddInt32", "(*internal/sync.Mutex).Unlock", "internal/race.ReleaseMerge", "(*internal/sync.Mutex).unlockSlow", "internal/sync.fatal", "internal/sync.runtime_Semrelease", "sync/atomic.StoreUint32"], unfollowed := true, recurses := true, named := ["ambry/code.crcSteps"], apart := false, laid := [("ambry/code.crcSteps", laid_ambry_code_crcSteps)] }
def FragCutsSaid : Prop := fragCutsRow.holds Tryd.pinned (OpenSpec.ofChange fragCutsSpec)

/-- ITS FALSE NEIGHBOUR: 'it returns false'. Refute it at one input. -/
def fragCutsWrong : ChangeSpec := { name := "fragCuts", fn := fun _ => fun
  | [d1, d2, d3] => { results := [.lit (.bool false)], args := [d1, d2, d3] }
  | _ => none }
def FragCutsWrongFalsely : Prop := fragCutsRow.holds Tryd.pinned (OpenSpec.ofChange fragCutsWrong)

/- THE SECOND FORM. 'bulk': how many values and letters a reading holds, each counted each time it is reached (what is shared counts as often as it is met; a slice's spare places count too). A statement '..UptoSaid' is the law's where the arguments, and the package variables that the reading takes, are together of bulk at most 1048576: NARROWER than '..Said'. Prove '..Said' where nothing that the law and all that it calls make is longer than what came in: it says more and counts as full. Else prove '..UptoSaid'. A law counts once. -/
mutual
def uptoBulk {H : Type} : DataW H → Nat
  | .lit (.string bytes) => bytes.length + 1
  | .lit _ => 1
  | .nil => 1
  | .ptr d => uptoBulk d + 1
  | .slice elems spare => uptoBulkAll elems + uptoBulkAll spare + 1
  | .agg parts => uptoBulkAll parts + 1
  | .iface _ d => uptoBulk d + 1
  | .map entries => uptoBulkEntries entries + 1
  | .held _ => 1
def uptoBulkAll {H : Type} : List (DataW H) → Nat
  | [] => 0
  | d :: r => uptoBulk d + uptoBulkAll r
def uptoBulkEntries {H : Type} : List (Lit × DataW H) → Nat
  | [] => 0
  | x :: r => uptoBulkEntry x + uptoBulkEntries r
def uptoBulkEntry {H : Type} : Lit × DataW H → Nat
  | (.string bytes, d) => bytes.length + uptoBulk d + 1
  | (_, d) => uptoBulk d + 1
 end
def uptoSmall : (H : Type) → List (DataW H) → Bool := fun _ ds => decide (uptoBulkAll ds ≤ 1048576)
def OpenSpec.upto (s : _root_.Go.ChangeSpec) : _root_.Go.OpenSpec := { _root_.Go.OpenSpec.ofChange s with cond := some uptoSmall }

/-- 'ambrylaw4.FragWrites', WHERE WHAT IT READS IS OF BULK AT MOST 1048576: true; the input reads as it did. -/
def fragWritesUptoRow : OpenClaim := { program := "ytimpnnhadjfijaadoor", sum := "5bd79e71791378a60c64b885427a85fe2faf85d2eca5cddc9d7cbe667d307db3", func := "ambry/ambrylaw4.FragWrites", spec := "fragWrites", inPlace := ["sync/atomic.LoadUint32", "(*internal/sync.Mutex).Lock", "internal/race.Disable", "sync/atomic.CompareAndSwapInt32", "internal/race.Enable", "internal/race.Acquire", "(*internal/sync.Mutex).lockSlow", "internal/sync.runtime_canSpin", "internal/sync.runtime_doSpin", "internal/sync.throw", "internal/sync.runtime_nanotime", "internal/sync.runtime_SemacquireMutex", "sync/atomic.AddInt32", "(*internal/sync.Mutex).Unlock", "internal/race.ReleaseMerge", "(*internal/sync.Mutex).unlockSlow", "internal/sync.fatal", "internal/sync.runtime_Semrelease", "sync/atomic.StoreUint32"], unfollowed := true, recurses := true, named := ["ambry/code.crcSteps"], apart := false, laid := [("ambry/code.crcSteps", laid_ambry_code_crcSteps)], narrowed := true }
def FragWritesUptoSaid : Prop := fragWritesUptoRow.holds Tryd.pinned (OpenSpec.upto fragWritesSpec)

/-- 'ambrylaw4.FragReads', WHERE WHAT IT READS IS OF BULK AT MOST 1048576: true; the input reads as it did. -/
def fragReadsUptoRow : OpenClaim := { program := "ytimpnnhadjfijaadoor", sum := "5bd79e71791378a60c64b885427a85fe2faf85d2eca5cddc9d7cbe667d307db3", func := "ambry/ambrylaw4.FragReads", spec := "fragReads", inPlace := ["sync/atomic.LoadUint32", "(*internal/sync.Mutex).Lock", "internal/race.Disable", "sync/atomic.CompareAndSwapInt32", "internal/race.Enable", "internal/race.Acquire", "(*internal/sync.Mutex).lockSlow", "internal/sync.runtime_canSpin", "internal/sync.runtime_doSpin", "internal/sync.throw", "internal/sync.runtime_nanotime", "internal/sync.runtime_SemacquireMutex", "sync/atomic.AddInt32", "(*internal/sync.Mutex).Unlock", "internal/race.ReleaseMerge", "(*internal/sync.Mutex).unlockSlow", "internal/sync.fatal", "internal/sync.runtime_Semrelease", "sync/atomic.StoreUint32"], unfollowed := true, recurses := true, named := ["ambry/code.crcSteps"], apart := false, laid := [("ambry/code.crcSteps", laid_ambry_code_crcSteps)], narrowed := true }
def FragReadsUptoSaid : Prop := fragReadsUptoRow.holds Tryd.pinned (OpenSpec.upto fragReadsSpec)

/-- 'ambrylaw4.FragEntries', WHERE WHAT IT READS IS OF BULK AT MOST 1048576: true; the input reads as it did. -/
def fragEntriesUptoRow : OpenClaim := { program := "ytimpnnhadjfijaadoor", sum := "5bd79e71791378a60c64b885427a85fe2faf85d2eca5cddc9d7cbe667d307db3", func := "ambry/ambrylaw4.FragEntries", spec := "fragEntries", inPlace := ["sync/atomic.LoadUint32", "(*internal/sync.Mutex).Lock", "internal/race.Disable", "sync/atomic.CompareAndSwapInt32", "internal/race.Enable", "internal/race.Acquire", "(*internal/sync.Mutex).lockSlow", "internal/sync.runtime_canSpin", "internal/sync.runtime_doSpin", "internal/sync.throw", "internal/sync.runtime_nanotime", "internal/sync.runtime_SemacquireMutex", "sync/atomic.AddInt32", "(*internal/sync.Mutex).Unlock", "internal/race.ReleaseMerge", "(*internal/sync.Mutex).unlockSlow", "internal/sync.fatal", "internal/sync.runtime_Semrelease", "sync/atomic.StoreUint32"], unfollowed := true, recurses := true, named := ["ambry/code.crcSteps"], apart := false, laid := [("ambry/code.crcSteps", laid_ambry_code_crcSteps)], narrowed := true }
def FragEntriesUptoSaid : Prop := fragEntriesUptoRow.holds Tryd.pinned (OpenSpec.upto fragEntriesSpec)

/-- 'ambrylaw4.FragSectors', WHERE WHAT IT READS IS OF BULK AT MOST 1048576: true; the input reads as it did. -/
def fragSectorsUptoRow : OpenClaim := { program := "ytimpnnhadjfijaadoor", sum := "5bd79e71791378a60c64b885427a85fe2faf85d2eca5cddc9d7cbe667d307db3", func := "ambry/ambrylaw4.FragSectors", spec := "fragSectors", inPlace := ["sync/atomic.LoadUint32", "(*internal/sync.Mutex).Lock", "internal/race.Disable", "sync/atomic.CompareAndSwapInt32", "internal/race.Enable", "internal/race.Acquire", "(*internal/sync.Mutex).lockSlow", "internal/sync.runtime_canSpin", "internal/sync.runtime_doSpin", "internal/sync.throw", "internal/sync.runtime_nanotime", "internal/sync.runtime_SemacquireMutex", "sync/atomic.AddInt32", "(*internal/sync.Mutex).Unlock", "internal/race.ReleaseMerge", "(*internal/sync.Mutex).unlockSlow", "internal/sync.fatal", "internal/sync.runtime_Semrelease", "sync/atomic.StoreUint32"], unfollowed := true, recurses := true, named := ["ambry/code.crcSteps"], apart := false, laid := [("ambry/code.crcSteps", laid_ambry_code_crcSteps)], narrowed := true }
def FragSectorsUptoSaid : Prop := fragSectorsUptoRow.holds Tryd.pinned (OpenSpec.upto fragSectorsSpec)

/-- 'ambrylaw4.FragBits', WHERE WHAT IT READS IS OF BULK AT MOST 1048576: true; the input reads as it did. -/
def fragBitsUptoRow : OpenClaim := { program := "ytimpnnhadjfijaadoor", sum := "5bd79e71791378a60c64b885427a85fe2faf85d2eca5cddc9d7cbe667d307db3", func := "ambry/ambrylaw4.FragBits", spec := "fragBits", inPlace := ["sync/atomic.LoadUint32", "(*internal/sync.Mutex).Lock", "internal/race.Disable", "sync/atomic.CompareAndSwapInt32", "internal/race.Enable", "internal/race.Acquire", "(*internal/sync.Mutex).lockSlow", "internal/sync.runtime_canSpin", "internal/sync.runtime_doSpin", "internal/sync.throw", "internal/sync.runtime_nanotime", "internal/sync.runtime_SemacquireMutex", "sync/atomic.AddInt32", "(*internal/sync.Mutex).Unlock", "internal/race.ReleaseMerge", "(*internal/sync.Mutex).unlockSlow", "internal/sync.fatal", "internal/sync.runtime_Semrelease", "sync/atomic.StoreUint32"], unfollowed := true, recurses := true, named := ["ambry/code.crcSteps"], apart := false, laid := [("ambry/code.crcSteps", laid_ambry_code_crcSteps)], narrowed := true }
def FragBitsUptoSaid : Prop := fragBitsUptoRow.holds Tryd.pinned (OpenSpec.upto fragBitsSpec)

/-- 'ambrylaw4.FragCuts', WHERE WHAT IT READS IS OF BULK AT MOST 1048576: true; the input reads as it did. -/
def fragCutsUptoRow : OpenClaim := { program := "ytimpnnhadjfijaadoor", sum := "5bd79e71791378a60c64b885427a85fe2faf85d2eca5cddc9d7cbe667d307db3", func := "ambry/ambrylaw4.FragCuts", spec := "fragCuts", inPlace := ["sync/atomic.LoadUint32", "(*internal/sync.Mutex).Lock", "internal/race.Disable", "sync/atomic.CompareAndSwapInt32", "internal/race.Enable", "internal/race.Acquire", "(*internal/sync.Mutex).lockSlow", "internal/sync.runtime_canSpin", "internal/sync.runtime_doSpin", "internal/sync.throw", "internal/sync.runtime_nanotime", "internal/sync.runtime_SemacquireMutex", "sync/atomic.AddInt32", "(*internal/sync.Mutex).Unlock", "internal/race.ReleaseMerge", "(*internal/sync.Mutex).unlockSlow", "internal/sync.fatal", "internal/sync.runtime_Semrelease", "sync/atomic.StoreUint32"], unfollowed := true, recurses := true, named := ["ambry/code.crcSteps"], apart := false, laid := [("ambry/code.crcSteps", laid_ambry_code_crcSteps)], narrowed := true }
def FragCutsUptoSaid : Prop := fragCutsUptoRow.holds Tryd.pinned (OpenSpec.upto fragCutsSpec)

end Rows
end Go.Proofs.YtimpnnhadjfijaaDoor
