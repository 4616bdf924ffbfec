/-
  NARROWER THAN 'FOR EVERY INPUT', by the rows' own cells (each row's printed sentence says how): CodeWrites: laid · CodeReads: laid · CodeSums: laid · CodeNums: laid · CodeCuts: laid.
  DERIVED. THE GIVEN ROWS OF THIS SEAT. 5 by the template 'for every input the law returns true; each argument reads behind the call as it read before'; 0 by the template 'total and deterministic' (their statements: YtekdkaiammebnaaDoorTotals.lean).
  GIVEN WITH THE SEED: the statements are not yours to turn. If you find one false, say at which input.
  Laid BY PROGRAM, IN A SANDBOX (cutbox-rows.mjs): the forced cells as the released guide's own fill.sh prints them over the translation 831519db15a6c822… (all of the seat's roots in one cut). By AI agents, Wed Nov 11 2026. No macro, syntax, notation, axiom, sorry.
-/
import Derived.Test.YtekdkaiammebnaaDoorChecked
import GoSem.Claim
import GoSem.ClaimJoined
import GoSem.ClaimMapViews
import Derived.JoinedTies
import Derived.KernelRfl
namespace Go.Proofs.YtekdkaiammebnaaDoor
/- THE CELL 'sum', in the pinned program and in every row, IS THE sha256 OF THE DUMP (.gsa) THAT YtekdkaiammebnaaDoorProg.lean LOADS. Nothing in Lean hashes anything: it is a label: what it is worth is what the hold of that sum in a sandbox is worth. -/
noncomputable def Tryd.pinned : Pinned := { name := "ytekdkaiammebnaadoor", sum := "831519db15a6c8229c8bb87d539e0e1a69cd6622dd789f4f292bccc067b96bc8", checked := Tryd.checked }
namespace Rows
def none {H : Type} : Left H := { results := [], args := [] }

/- WHAT THE LISTED PACKAGE-LEVEL VARIABLES READ AS WHEN THE CALL BEGINS. Each datum BY PROGRAM (the guide's laid-datum.mjs) off the statement by which the dump's own 'gosem.cut.vars' lays the variable. In a bare row this is a premise. The card (YtekdkaiammebnaaDoorCards.lean) ties it to the program's text. -/
def laid_ambry_code_crcSteps {H : Type} : DataW H := .agg [.lit (.int .u32 0), .lit (.int .u32 498536548), .lit (.int .u32 997073096), .lit (.int .u32 651767980), .lit (.int .u32 1994146192), .lit (.int .u32 1802195444), .lit (.int .u32 1303535960), .lit (.int .u32 1342533948), .lit (.int .u32 3988292384), .lit (.int .u32 4027552580), .lit (.int .u32 3604390888), .lit (.int .u32 3412177804), .lit (.int .u32 2607071920), .lit (.int .u32 2262029012), .lit (.int .u32 2685067896), .lit (.int .u32 3183342108)]

/-- 'ambrylaw2.CodeWrites': WHATEVER THE INPUT: true; the input reads as it did. -/
def codeWritesSpec : ChangeSpec := { name := "codeWrites", fn := fun _ => fun
  | [d] => { results := [.lit (.bool true)], args := [d] }
  | _ => none }
def codeWritesRow : OpenClaim := { program := "ytekdkaiammebnaadoor", sum := "831519db15a6c8229c8bb87d539e0e1a69cd6622dd789f4f292bccc067b96bc8", func := "ambry/ambrylaw2.CodeWrites", spec := "codeWrites", unfollowed := true, recurses := true, named := ["ambry/code.crcSteps"], apart := false, laid := [("ambry/code.crcSteps", laid_ambry_code_crcSteps)] }
def CodeWritesSaid : Prop := codeWritesRow.holds Tryd.pinned (OpenSpec.ofChange codeWritesSpec)

/-- ITS FALSE NEIGHBOUR: 'it returns false'. Refute it at one input. -/
def codeWritesWrong : ChangeSpec := { name := "codeWrites", fn := fun _ => fun
  | [d] => { results := [.lit (.bool false)], args := [d] }
  | _ => none }
def CodeWritesWrongFalsely : Prop := codeWritesRow.holds Tryd.pinned (OpenSpec.ofChange codeWritesWrong)

/-- 'ambrylaw2.CodeReads': WHATEVER THE INPUT: true; the input reads as it did. -/
def codeReadsSpec : ChangeSpec := { name := "codeReads", fn := fun _ => fun
  | [d1, d2] => { results := [.lit (.bool true)], args := [d1, d2] }
  | _ => none }
def codeReadsRow : OpenClaim := { program := "ytekdkaiammebnaadoor", sum := "831519db15a6c8229c8bb87d539e0e1a69cd6622dd789f4f292bccc067b96bc8", func := "ambry/ambrylaw2.CodeReads", spec := "codeReads", unfollowed := true, recurses := true, named := ["ambry/code.crcSteps"], apart := false, laid := [("ambry/code.crcSteps", laid_ambry_code_crcSteps)] }
def CodeReadsSaid : Prop := codeReadsRow.holds Tryd.pinned (OpenSpec.ofChange codeReadsSpec)

/-- ITS FALSE NEIGHBOUR: 'it returns false'. Refute it at one input. -/
def codeReadsWrong : ChangeSpec := { name := "codeReads", fn := fun _ => fun
  | [d1, d2] => { results := [.lit (.bool false)], args := [d1, d2] }
  | _ => none }
def CodeReadsWrongFalsely : Prop := codeReadsRow.holds Tryd.pinned (OpenSpec.ofChange codeReadsWrong)

/-- 'ambrylaw2.CodeSums': WHATEVER THE INPUT: true; the input reads as it did. -/
def codeSumsSpec : ChangeSpec := { name := "codeSums", fn := fun _ => fun
  | [d] => { results := [.lit (.bool true)], args := [d] }
  | _ => none }
def codeSumsRow : OpenClaim := { program := "ytekdkaiammebnaadoor", sum := "831519db15a6c8229c8bb87d539e0e1a69cd6622dd789f4f292bccc067b96bc8", func := "ambry/ambrylaw2.CodeSums", spec := "codeSums", unfollowed := true, recurses := true, named := ["ambry/code.crcSteps"], apart := false, laid := [("ambry/code.crcSteps", laid_ambry_code_crcSteps)] }
def CodeSumsSaid : Prop := codeSumsRow.holds Tryd.pinned (OpenSpec.ofChange codeSumsSpec)

/-- ITS FALSE NEIGHBOUR: 'it returns false'. Refute it at one input. -/
def codeSumsWrong : ChangeSpec := { name := "codeSums", fn := fun _ => fun
  | [d] => { results := [.lit (.bool false)], args := [d] }
  | _ => none }
def CodeSumsWrongFalsely : Prop := codeSumsRow.holds Tryd.pinned (OpenSpec.ofChange codeSumsWrong)

/-- 'ambrylaw2.CodeNums': WHATEVER THE INPUT: true; the input reads as it did. -/
def codeNumsSpec : ChangeSpec := { name := "codeNums", fn := fun _ => fun
  | [d1, d2] => { results := [.lit (.bool true)], args := [d1, d2] }
  | _ => none }
def codeNumsRow : OpenClaim := { program := "ytekdkaiammebnaadoor", sum := "831519db15a6c8229c8bb87d539e0e1a69cd6622dd789f4f292bccc067b96bc8", func := "ambry/ambrylaw2.CodeNums", spec := "codeNums", unfollowed := true, recurses := true, named := ["ambry/code.crcSteps"], apart := false, laid := [("ambry/code.crcSteps", laid_ambry_code_crcSteps)] }
def CodeNumsSaid : Prop := codeNumsRow.holds Tryd.pinned (OpenSpec.ofChange codeNumsSpec)

/-- ITS FALSE NEIGHBOUR: 'it returns false'. Refute it at one input. -/
def codeNumsWrong : ChangeSpec := { name := "codeNums", fn := fun _ => fun
  | [d1, d2] => { results := [.lit (.bool false)], args := [d1, d2] }
  | _ => none }
def CodeNumsWrongFalsely : Prop := codeNumsRow.holds Tryd.pinned (OpenSpec.ofChange codeNumsWrong)

/-- 'ambrylaw2.CodeCuts': WHATEVER THE INPUT: true; the input reads as it did. -/
def codeCutsSpec : ChangeSpec := { name := "codeCuts", fn := fun _ => fun
  | [d1, d2] => { results := [.lit (.bool true)], args := [d1, d2] }
  | _ => none }
def codeCutsRow : OpenClaim := { program := "ytekdkaiammebnaadoor", sum := "831519db15a6c8229c8bb87d539e0e1a69cd6622dd789f4f292bccc067b96bc8", func := "ambry/ambrylaw2.CodeCuts", spec := "codeCuts", unfollowed := true, recurses := true, named := ["ambry/code.crcSteps"], apart := false, laid := [("ambry/code.crcSteps", laid_ambry_code_crcSteps)] }
def CodeCutsSaid : Prop := codeCutsRow.holds Tryd.pinned (OpenSpec.ofChange codeCutsSpec)

/-- ITS FALSE NEIGHBOUR: 'it returns false'. Refute it at one input. -/
def codeCutsWrong : ChangeSpec := { name := "codeCuts", fn := fun _ => fun
  | [d1, d2] => { results := [.lit (.bool false)], args := [d1, d2] }
  | _ => none }
def CodeCutsWrongFalsely : Prop := codeCutsRow.holds Tryd.pinned (OpenSpec.ofChange codeCutsWrong)

/- THE SECOND FORM. 'bulk': how many values and letters a reading holds, each counted each time it is reached (what is shared counts as often as it is met; a slice's spare places count too). A statement '..UptoSaid' is the law's where the arguments, and the package variables that the reading takes, are together of bulk at most 1048576: NARROWER than '..Said'. Prove '..Said' where nothing that the law and all that it calls make is longer than what came in: it says more and counts as full. Else prove '..UptoSaid'. A law counts once. -/
mutual
def uptoBulk {H : Type} : DataW H → Nat
  | .lit (.string bytes) => bytes.length + 1
  | .lit _ => 1
  | .nil => 1
  | .ptr d => uptoBulk d + 1
  | .slice elems spare => uptoBulkAll elems + uptoBulkAll spare + 1
  | .agg parts => uptoBulkAll parts + 1
  | .iface _ d => uptoBulk d + 1
  | .map entries => uptoBulkEntries entries + 1
  | .held _ => 1
def uptoBulkAll {H : Type} : List (DataW H) → Nat
  | [] => 0
  | d :: r => uptoBulk d + uptoBulkAll r
def uptoBulkEntries {H : Type} : List (Lit × DataW H) → Nat
  | [] => 0
  | x :: r => uptoBulkEntry x + uptoBulkEntries r
def uptoBulkEntry {H : Type} : Lit × DataW H → Nat
  | (.string bytes, d) => bytes.length + uptoBulk d + 1
  | (_, d) => uptoBulk d + 1
 end
def uptoSmall : (H : Type) → List (DataW H) → Bool := fun _ ds => decide (uptoBulkAll ds ≤ 1048576)
def OpenSpec.upto (s : _root_.Go.ChangeSpec) : _root_.Go.OpenSpec := { _root_.Go.OpenSpec.ofChange s with cond := some uptoSmall }

/-- 'ambrylaw2.CodeWrites', WHERE WHAT IT READS IS OF BULK AT MOST 1048576: true; the input reads as it did. -/
def codeWritesUptoRow : OpenClaim := { program := "ytekdkaiammebnaadoor", sum := "831519db15a6c8229c8bb87d539e0e1a69cd6622dd789f4f292bccc067b96bc8", func := "ambry/ambrylaw2.CodeWrites", spec := "codeWrites", unfollowed := true, recurses := true, named := ["ambry/code.crcSteps"], apart := false, laid := [("ambry/code.crcSteps", laid_ambry_code_crcSteps)], narrowed := true }
def CodeWritesUptoSaid : Prop := codeWritesUptoRow.holds Tryd.pinned (OpenSpec.upto codeWritesSpec)

/-- 'ambrylaw2.CodeReads', WHERE WHAT IT READS IS OF BULK AT MOST 1048576: true; the input reads as it did. -/
def codeReadsUptoRow : OpenClaim := { program := "ytekdkaiammebnaadoor", sum := "831519db15a6c8229c8bb87d539e0e1a69cd6622dd789f4f292bccc067b96bc8", func := "ambry/ambrylaw2.CodeReads", spec := "codeReads", unfollowed := true, recurses := true, named := ["ambry/code.crcSteps"], apart := false, laid := [("ambry/code.crcSteps", laid_ambry_code_crcSteps)], narrowed := true }
def CodeReadsUptoSaid : Prop := codeReadsUptoRow.holds Tryd.pinned (OpenSpec.upto codeReadsSpec)

/-- 'ambrylaw2.CodeSums', WHERE WHAT IT READS IS OF BULK AT MOST 1048576: true; the input reads as it did. -/
def codeSumsUptoRow : OpenClaim := { program := "ytekdkaiammebnaadoor", sum := "831519db15a6c8229c8bb87d539e0e1a69cd6622dd789f4f292bccc067b96bc8", func := "ambry/ambrylaw2.CodeSums", spec := "codeSums", unfollowed := true, recurses := true, named := ["ambry/code.crcSteps"], apart := false, laid := [("ambry/code.crcSteps", laid_ambry_code_crcSteps)], narrowed := true }
def CodeSumsUptoSaid : Prop := codeSumsUptoRow.holds Tryd.pinned (OpenSpec.upto codeSumsSpec)

/-- 'ambrylaw2.CodeNums', WHERE WHAT IT READS IS OF BULK AT MOST 1048576: true; the input reads as it did. -/
def codeNumsUptoRow : OpenClaim := { program := "ytekdkaiammebnaadoor", sum := "831519db15a6c8229c8bb87d539e0e1a69cd6622dd789f4f292bccc067b96bc8", func := "ambry/ambrylaw2.CodeNums", spec := "codeNums", unfollowed := true, recurses := true, named := ["ambry/code.crcSteps"], apart := false, laid := [("ambry/code.crcSteps", laid_ambry_code_crcSteps)], narrowed := true }
def CodeNumsUptoSaid : Prop := codeNumsUptoRow.holds Tryd.pinned (OpenSpec.upto codeNumsSpec)

/-- 'ambrylaw2.CodeCuts', WHERE WHAT IT READS IS OF BULK AT MOST 1048576: true; the input reads as it did. -/
def codeCutsUptoRow : OpenClaim := { program := "ytekdkaiammebnaadoor", sum := "831519db15a6c8229c8bb87d539e0e1a69cd6622dd789f4f292bccc067b96bc8", func := "ambry/ambrylaw2.CodeCuts", spec := "codeCuts", unfollowed := true, recurses := true, named := ["ambry/code.crcSteps"], apart := false, laid := [("ambry/code.crcSteps", laid_ambry_code_crcSteps)], narrowed := true }
def CodeCutsUptoSaid : Prop := codeCutsUptoRow.holds Tryd.pinned (OpenSpec.upto codeCutsSpec)

end Rows
end Go.Proofs.YtekdkaiammebnaaDoor
