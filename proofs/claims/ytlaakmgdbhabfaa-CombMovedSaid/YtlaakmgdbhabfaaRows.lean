/-
  No cell of these rows narrows 'for every input' (looked for: loops, veiled, ifaces, maps, wideKeys, modest, calm, conditions, laid).
  DERIVED. THE GIVEN ROWS OF THIS SEAT. 12 by the template 'for every input the law returns true; each argument reads behind the call as it read before'; 0 by the template 'total and deterministic' (their statements: YtlaakmgdbhabfaaTotals.lean).
  GIVEN WITH THE SEED: the statements are not yours to turn. If you find one false, say at which input.
  Laid BY PROGRAM, IN A SANDBOX (cutbox-rows.mjs): the forced cells as the released guide's own fill.sh prints them over the translation f269dd679f58392e… (all of the seat's roots in one cut). By AI agents, Wed Nov 11 2026. No macro, syntax, notation, axiom, sorry.
-/
import Derived.Test.YtlaakmgdbhabfaaChecked
import GoSem.Claim
import GoSem.ClaimJoined
import GoSem.ClaimMapViews
import Derived.JoinedTies
import Derived.KernelRfl
namespace Go.Proofs.Ytlaakmgdbhabfaa
/- THE CELL 'sum', in the pinned program and in every row, IS THE sha256 OF THE DUMP (.gsa) THAT YtlaakmgdbhabfaaProg.lean LOADS. Nothing in Lean hashes anything: it is a label: what it is worth is what the hold of that sum in a sandbox is worth. -/
noncomputable def Try.pinned : Pinned := { name := "ytlaakmgdbhabfaa", sum := "f269dd679f58392e3ad40b7a66f4d4fe2b619f92074dd0510f8c5a374664dbde", checked := Try.checked }
namespace Rows
def none {H : Type} : Left H := { results := [], args := [] }

/-- 'oxgalllaw03.CombSheets': WHATEVER THE INPUT: true; the input reads as it did. -/
def combSheetsSpec : ChangeSpec := { name := "combSheets", fn := fun _ => fun
  | [d1, d2, d3] => { results := [.lit (.bool true)], args := [d1, d2, d3] }
  | _ => none }
def combSheetsRow : OpenClaim := { program := "ytlaakmgdbhabfaa", sum := "f269dd679f58392e3ad40b7a66f4d4fe2b619f92074dd0510f8c5a374664dbde", func := "oxgall/oxgalllaw03.CombSheets", spec := "combSheets", unfollowed := true, recurses := true, plainKeys := false, apart := false }
def CombSheetsSaid : Prop := combSheetsRow.holds Try.pinned (OpenSpec.ofChange combSheetsSpec)

/-- ITS FALSE NEIGHBOUR: 'it returns false'. Refute it at one input. -/
def combSheetsWrong : ChangeSpec := { name := "combSheets", fn := fun _ => fun
  | [d1, d2, d3] => { results := [.lit (.bool false)], args := [d1, d2, d3] }
  | _ => none }
def CombSheetsWrongFalsely : Prop := combSheetsRow.holds Try.pinned (OpenSpec.ofChange combSheetsWrong)

/-- 'oxgalllaw03.CombAparts': WHATEVER THE INPUT: true; the input reads as it did. -/
def combApartsSpec : ChangeSpec := { name := "combAparts", fn := fun _ => fun
  | [d1, d2] => { results := [.lit (.bool true)], args := [d1, d2] }
  | _ => none }
def combApartsRow : OpenClaim := { program := "ytlaakmgdbhabfaa", sum := "f269dd679f58392e3ad40b7a66f4d4fe2b619f92074dd0510f8c5a374664dbde", func := "oxgall/oxgalllaw03.CombAparts", spec := "combAparts", unfollowed := true, recurses := true, plainKeys := false, apart := false }
def CombApartsSaid : Prop := combApartsRow.holds Try.pinned (OpenSpec.ofChange combApartsSpec)

/-- ITS FALSE NEIGHBOUR: 'it returns false'. Refute it at one input. -/
def combApartsWrong : ChangeSpec := { name := "combAparts", fn := fun _ => fun
  | [d1, d2] => { results := [.lit (.bool false)], args := [d1, d2] }
  | _ => none }
def CombApartsWrongFalsely : Prop := combApartsRow.holds Try.pinned (OpenSpec.ofChange combApartsWrong)

/-- 'oxgalllaw03.CombKinds': WHATEVER THE INPUT: true; the input reads as it did. -/
def combKindsSpec : ChangeSpec := { name := "combKinds", fn := fun _ => fun
  | [d1, d2] => { results := [.lit (.bool true)], args := [d1, d2] }
  | _ => none }
def combKindsRow : OpenClaim := { program := "ytlaakmgdbhabfaa", sum := "f269dd679f58392e3ad40b7a66f4d4fe2b619f92074dd0510f8c5a374664dbde", func := "oxgall/oxgalllaw03.CombKinds", spec := "combKinds", unfollowed := true, recurses := true, plainKeys := false, apart := false }
def CombKindsSaid : Prop := combKindsRow.holds Try.pinned (OpenSpec.ofChange combKindsSpec)

/-- ITS FALSE NEIGHBOUR: 'it returns false'. Refute it at one input. -/
def combKindsWrong : ChangeSpec := { name := "combKinds", fn := fun _ => fun
  | [d1, d2] => { results := [.lit (.bool false)], args := [d1, d2] }
  | _ => none }
def CombKindsWrongFalsely : Prop := combKindsRow.holds Try.pinned (OpenSpec.ofChange combKindsWrong)

/-- 'oxgalllaw03.CombMeets': WHATEVER THE INPUT: true; the input reads as it did. -/
def combMeetsSpec : ChangeSpec := { name := "combMeets", fn := fun _ => fun
  | [d1, d2, d3, d4, d5] => { results := [.lit (.bool true)], args := [d1, d2, d3, d4, d5] }
  | _ => none }
def combMeetsRow : OpenClaim := { program := "ytlaakmgdbhabfaa", sum := "f269dd679f58392e3ad40b7a66f4d4fe2b619f92074dd0510f8c5a374664dbde", func := "oxgall/oxgalllaw03.CombMeets", spec := "combMeets", unfollowed := true, recurses := true, plainKeys := false, apart := false }
def CombMeetsSaid : Prop := combMeetsRow.holds Try.pinned (OpenSpec.ofChange combMeetsSpec)

/-- ITS FALSE NEIGHBOUR: 'it returns false'. Refute it at one input. -/
def combMeetsWrong : ChangeSpec := { name := "combMeets", fn := fun _ => fun
  | [d1, d2, d3, d4, d5] => { results := [.lit (.bool false)], args := [d1, d2, d3, d4, d5] }
  | _ => none }
def CombMeetsWrongFalsely : Prop := combMeetsRow.holds Try.pinned (OpenSpec.ofChange combMeetsWrong)

/-- 'oxgalllaw03.CombProved': WHATEVER THE INPUT: true; the input reads as it did. -/
def combProvedSpec : ChangeSpec := { name := "combProved", fn := fun _ => fun
  | [d1, d2, d3] => { results := [.lit (.bool true)], args := [d1, d2, d3] }
  | _ => none }
def combProvedRow : OpenClaim := { program := "ytlaakmgdbhabfaa", sum := "f269dd679f58392e3ad40b7a66f4d4fe2b619f92074dd0510f8c5a374664dbde", func := "oxgall/oxgalllaw03.CombProved", spec := "combProved", unfollowed := true, recurses := true, plainKeys := false, apart := false }
def CombProvedSaid : Prop := combProvedRow.holds Try.pinned (OpenSpec.ofChange combProvedSpec)

/-- ITS FALSE NEIGHBOUR: 'it returns false'. Refute it at one input. -/
def combProvedWrong : ChangeSpec := { name := "combProved", fn := fun _ => fun
  | [d1, d2, d3] => { results := [.lit (.bool false)], args := [d1, d2, d3] }
  | _ => none }
def CombProvedWrongFalsely : Prop := combProvedRow.holds Try.pinned (OpenSpec.ofChange combProvedWrong)

/-- 'oxgalllaw03.CombEither': WHATEVER THE INPUT: true; the input reads as it did. -/
def combEitherSpec : ChangeSpec := { name := "combEither", fn := fun _ => fun
  | [d1, d2, d3] => { results := [.lit (.bool true)], args := [d1, d2, d3] }
  | _ => none }
def combEitherRow : OpenClaim := { program := "ytlaakmgdbhabfaa", sum := "f269dd679f58392e3ad40b7a66f4d4fe2b619f92074dd0510f8c5a374664dbde", func := "oxgall/oxgalllaw03.CombEither", spec := "combEither", unfollowed := true, recurses := true, plainKeys := false, apart := false }
def CombEitherSaid : Prop := combEitherRow.holds Try.pinned (OpenSpec.ofChange combEitherSpec)

/-- ITS FALSE NEIGHBOUR: 'it returns false'. Refute it at one input. -/
def combEitherWrong : ChangeSpec := { name := "combEither", fn := fun _ => fun
  | [d1, d2, d3] => { results := [.lit (.bool false)], args := [d1, d2, d3] }
  | _ => none }
def CombEitherWrongFalsely : Prop := combEitherRow.holds Try.pinned (OpenSpec.ofChange combEitherWrong)

/-- 'oxgalllaw03.CombMore': WHATEVER THE INPUT: true; the input reads as it did. -/
def combMoreSpec : ChangeSpec := { name := "combMore", fn := fun _ => fun
  | [d1, d2, d3] => { results := [.lit (.bool true)], args := [d1, d2, d3] }
  | _ => none }
def combMoreRow : OpenClaim := { program := "ytlaakmgdbhabfaa", sum := "f269dd679f58392e3ad40b7a66f4d4fe2b619f92074dd0510f8c5a374664dbde", func := "oxgall/oxgalllaw03.CombMore", spec := "combMore", unfollowed := true, recurses := true, plainKeys := false, apart := false }
def CombMoreSaid : Prop := combMoreRow.holds Try.pinned (OpenSpec.ofChange combMoreSpec)

/-- ITS FALSE NEIGHBOUR: 'it returns false'. Refute it at one input. -/
def combMoreWrong : ChangeSpec := { name := "combMore", fn := fun _ => fun
  | [d1, d2, d3] => { results := [.lit (.bool false)], args := [d1, d2, d3] }
  | _ => none }
def CombMoreWrongFalsely : Prop := combMoreRow.holds Try.pinned (OpenSpec.ofChange combMoreWrong)

/-- 'oxgalllaw03.CombAlone': WHATEVER THE INPUT: true; the input reads as it did. -/
def combAloneSpec : ChangeSpec := { name := "combAlone", fn := fun _ => fun
  | [d1, d2] => { results := [.lit (.bool true)], args := [d1, d2] }
  | _ => none }
def combAloneRow : OpenClaim := { program := "ytlaakmgdbhabfaa", sum := "f269dd679f58392e3ad40b7a66f4d4fe2b619f92074dd0510f8c5a374664dbde", func := "oxgall/oxgalllaw03.CombAlone", spec := "combAlone", unfollowed := true, recurses := true, plainKeys := false, apart := false }
def CombAloneSaid : Prop := combAloneRow.holds Try.pinned (OpenSpec.ofChange combAloneSpec)

/-- ITS FALSE NEIGHBOUR: 'it returns false'. Refute it at one input. -/
def combAloneWrong : ChangeSpec := { name := "combAlone", fn := fun _ => fun
  | [d1, d2] => { results := [.lit (.bool false)], args := [d1, d2] }
  | _ => none }
def CombAloneWrongFalsely : Prop := combAloneRow.holds Try.pinned (OpenSpec.ofChange combAloneWrong)

/-- 'oxgalllaw03.CombCounted': WHATEVER THE INPUT: true; the input reads as it did. -/
def combCountedSpec : ChangeSpec := { name := "combCounted", fn := fun _ => fun
  | [d] => { results := [.lit (.bool true)], args := [d] }
  | _ => none }
def combCountedRow : OpenClaim := { program := "ytlaakmgdbhabfaa", sum := "f269dd679f58392e3ad40b7a66f4d4fe2b619f92074dd0510f8c5a374664dbde", func := "oxgall/oxgalllaw03.CombCounted", spec := "combCounted", unfollowed := true, recurses := true, plainKeys := false, apart := false }
def CombCountedSaid : Prop := combCountedRow.holds Try.pinned (OpenSpec.ofChange combCountedSpec)

/-- ITS FALSE NEIGHBOUR: 'it returns false'. Refute it at one input. -/
def combCountedWrong : ChangeSpec := { name := "combCounted", fn := fun _ => fun
  | [d] => { results := [.lit (.bool false)], args := [d] }
  | _ => none }
def CombCountedWrongFalsely : Prop := combCountedRow.holds Try.pinned (OpenSpec.ofChange combCountedWrong)

/-- 'oxgalllaw03.CombMoved': WHATEVER THE INPUT: true; the input reads as it did. -/
def combMovedSpec : ChangeSpec := { name := "combMoved", fn := fun _ => fun
  | [d1, d2, d3] => { results := [.lit (.bool true)], args := [d1, d2, d3] }
  | _ => none }
def combMovedRow : OpenClaim := { program := "ytlaakmgdbhabfaa", sum := "f269dd679f58392e3ad40b7a66f4d4fe2b619f92074dd0510f8c5a374664dbde", func := "oxgall/oxgalllaw03.CombMoved", spec := "combMoved", unfollowed := true, recurses := true, plainKeys := false, apart := false }
def CombMovedSaid : Prop := combMovedRow.holds Try.pinned (OpenSpec.ofChange combMovedSpec)

/-- ITS FALSE NEIGHBOUR: 'it returns false'. Refute it at one input. -/
def combMovedWrong : ChangeSpec := { name := "combMoved", fn := fun _ => fun
  | [d1, d2, d3] => { results := [.lit (.bool false)], args := [d1, d2, d3] }
  | _ => none }
def CombMovedWrongFalsely : Prop := combMovedRow.holds Try.pinned (OpenSpec.ofChange combMovedWrong)

/-- 'oxgalllaw03.CombMet': WHATEVER THE INPUT: true; the input reads as it did. -/
def combMetSpec : ChangeSpec := { name := "combMet", fn := fun _ => fun
  | [d1, d2, d3, d4, d5] => { results := [.lit (.bool true)], args := [d1, d2, d3, d4, d5] }
  | _ => none }
def combMetRow : OpenClaim := { program := "ytlaakmgdbhabfaa", sum := "f269dd679f58392e3ad40b7a66f4d4fe2b619f92074dd0510f8c5a374664dbde", func := "oxgall/oxgalllaw03.CombMet", spec := "combMet", unfollowed := true, recurses := true, plainKeys := false, apart := false }
def CombMetSaid : Prop := combMetRow.holds Try.pinned (OpenSpec.ofChange combMetSpec)

/-- ITS FALSE NEIGHBOUR: 'it returns false'. Refute it at one input. -/
def combMetWrong : ChangeSpec := { name := "combMet", fn := fun _ => fun
  | [d1, d2, d3, d4, d5] => { results := [.lit (.bool false)], args := [d1, d2, d3, d4, d5] }
  | _ => none }
def CombMetWrongFalsely : Prop := combMetRow.holds Try.pinned (OpenSpec.ofChange combMetWrong)

/-- 'oxgalllaw03.CombKnown': WHATEVER THE INPUT: true; the input reads as it did. -/
def combKnownSpec : ChangeSpec := { name := "combKnown", fn := fun _ => fun
  | [] => { results := [.lit (.bool true)], args := [] }
  | _ => none }
def combKnownRow : OpenClaim := { program := "ytlaakmgdbhabfaa", sum := "f269dd679f58392e3ad40b7a66f4d4fe2b619f92074dd0510f8c5a374664dbde", func := "oxgall/oxgalllaw03.CombKnown", spec := "combKnown", unfollowed := true, recurses := true, plainKeys := false, apart := false }
def CombKnownSaid : Prop := combKnownRow.holds Try.pinned (OpenSpec.ofChange combKnownSpec)

/-- ITS FALSE NEIGHBOUR: 'it returns false'. Refute it at one input. -/
def combKnownWrong : ChangeSpec := { name := "combKnown", fn := fun _ => fun
  | [] => { results := [.lit (.bool false)], args := [] }
  | _ => none }
def CombKnownWrongFalsely : Prop := combKnownRow.holds Try.pinned (OpenSpec.ofChange combKnownWrong)

/- THE SECOND FORM. 'bulk': how many values and letters a reading holds, each counted each time it is reached (what is shared counts as often as it is met; a slice's spare places count too). A statement '..UptoSaid' is the law's where the arguments, and the package variables that the reading takes, are together of bulk at most 1048576: NARROWER than '..Said'. Prove '..Said' where nothing that the law and all that it calls make is longer than what came in: it says more and counts as full. Else prove '..UptoSaid'. A law counts once. -/
mutual
def uptoBulk {H : Type} : DataW H → Nat
  | .lit (.string bytes) => bytes.length + 1
  | .lit _ => 1
  | .nil => 1
  | .ptr d => uptoBulk d + 1
  | .slice elems spare => uptoBulkAll elems + uptoBulkAll spare + 1
  | .agg parts => uptoBulkAll parts + 1
  | .iface _ d => uptoBulk d + 1
  | .map entries => uptoBulkEntries entries + 1
  | .held _ => 1
def uptoBulkAll {H : Type} : List (DataW H) → Nat
  | [] => 0
  | d :: r => uptoBulk d + uptoBulkAll r
def uptoBulkEntries {H : Type} : List (Lit × DataW H) → Nat
  | [] => 0
  | x :: r => uptoBulkEntry x + uptoBulkEntries r
def uptoBulkEntry {H : Type} : Lit × DataW H → Nat
  | (.string bytes, d) => bytes.length + uptoBulk d + 1
  | (_, d) => uptoBulk d + 1
 end
def uptoSmall : (H : Type) → List (DataW H) → Bool := fun _ ds => decide (uptoBulkAll ds ≤ 1048576)
def OpenSpec.upto (s : _root_.Go.ChangeSpec) : _root_.Go.OpenSpec := { _root_.Go.OpenSpec.ofChange s with cond := some uptoSmall }

/-- 'oxgalllaw03.CombSheets', WHERE WHAT IT READS IS OF BULK AT MOST 1048576: true; the input reads as it did. -/
def combSheetsUptoRow : OpenClaim := { program := "ytlaakmgdbhabfaa", sum := "f269dd679f58392e3ad40b7a66f4d4fe2b619f92074dd0510f8c5a374664dbde", func := "oxgall/oxgalllaw03.CombSheets", spec := "combSheets", unfollowed := true, recurses := true, plainKeys := false, apart := false, narrowed := true }
def CombSheetsUptoSaid : Prop := combSheetsUptoRow.holds Try.pinned (OpenSpec.upto combSheetsSpec)

/-- 'oxgalllaw03.CombAparts', WHERE WHAT IT READS IS OF BULK AT MOST 1048576: true; the input reads as it did. -/
def combApartsUptoRow : OpenClaim := { program := "ytlaakmgdbhabfaa", sum := "f269dd679f58392e3ad40b7a66f4d4fe2b619f92074dd0510f8c5a374664dbde", func := "oxgall/oxgalllaw03.CombAparts", spec := "combAparts", unfollowed := true, recurses := true, plainKeys := false, apart := false, narrowed := true }
def CombApartsUptoSaid : Prop := combApartsUptoRow.holds Try.pinned (OpenSpec.upto combApartsSpec)

/-- 'oxgalllaw03.CombKinds', WHERE WHAT IT READS IS OF BULK AT MOST 1048576: true; the input reads as it did. -/
def combKindsUptoRow : OpenClaim := { program := "ytlaakmgdbhabfaa", sum := "f269dd679f58392e3ad40b7a66f4d4fe2b619f92074dd0510f8c5a374664dbde", func := "oxgall/oxgalllaw03.CombKinds", spec := "combKinds", unfollowed := true, recurses := true, plainKeys := false, apart := false, narrowed := true }
def CombKindsUptoSaid : Prop := combKindsUptoRow.holds Try.pinned (OpenSpec.upto combKindsSpec)

/-- 'oxgalllaw03.CombMeets', WHERE WHAT IT READS IS OF BULK AT MOST 1048576: true; the input reads as it did. -/
def combMeetsUptoRow : OpenClaim := { program := "ytlaakmgdbhabfaa", sum := "f269dd679f58392e3ad40b7a66f4d4fe2b619f92074dd0510f8c5a374664dbde", func := "oxgall/oxgalllaw03.CombMeets", spec := "combMeets", unfollowed := true, recurses := true, plainKeys := false, apart := false, narrowed := true }
def CombMeetsUptoSaid : Prop := combMeetsUptoRow.holds Try.pinned (OpenSpec.upto combMeetsSpec)

/-- 'oxgalllaw03.CombProved', WHERE WHAT IT READS IS OF BULK AT MOST 1048576: true; the input reads as it did. -/
def combProvedUptoRow : OpenClaim := { program := "ytlaakmgdbhabfaa", sum := "f269dd679f58392e3ad40b7a66f4d4fe2b619f92074dd0510f8c5a374664dbde", func := "oxgall/oxgalllaw03.CombProved", spec := "combProved", unfollowed := true, recurses := true, plainKeys := false, apart := false, narrowed := true }
def CombProvedUptoSaid : Prop := combProvedUptoRow.holds Try.pinned (OpenSpec.upto combProvedSpec)

/-- 'oxgalllaw03.CombEither', WHERE WHAT IT READS IS OF BULK AT MOST 1048576: true; the input reads as it did. -/
def combEitherUptoRow : OpenClaim := { program := "ytlaakmgdbhabfaa", sum := "f269dd679f58392e3ad40b7a66f4d4fe2b619f92074dd0510f8c5a374664dbde", func := "oxgall/oxgalllaw03.CombEither", spec := "combEither", unfollowed := true, recurses := true, plainKeys := false, apart := false, narrowed := true }
def CombEitherUptoSaid : Prop := combEitherUptoRow.holds Try.pinned (OpenSpec.upto combEitherSpec)

/-- 'oxgalllaw03.CombMore', WHERE WHAT IT READS IS OF BULK AT MOST 1048576: true; the input reads as it did. -/
def combMoreUptoRow : OpenClaim := { program := "ytlaakmgdbhabfaa", sum := "f269dd679f58392e3ad40b7a66f4d4fe2b619f92074dd0510f8c5a374664dbde", func := "oxgall/oxgalllaw03.CombMore", spec := "combMore", unfollowed := true, recurses := true, plainKeys := false, apart := false, narrowed := true }
def CombMoreUptoSaid : Prop := combMoreUptoRow.holds Try.pinned (OpenSpec.upto combMoreSpec)

/-- 'oxgalllaw03.CombAlone', WHERE WHAT IT READS IS OF BULK AT MOST 1048576: true; the input reads as it did. -/
def combAloneUptoRow : OpenClaim := { program := "ytlaakmgdbhabfaa", sum := "f269dd679f58392e3ad40b7a66f4d4fe2b619f92074dd0510f8c5a374664dbde", func := "oxgall/oxgalllaw03.CombAlone", spec := "combAlone", unfollowed := true, recurses := true, plainKeys := false, apart := false, narrowed := true }
def CombAloneUptoSaid : Prop := combAloneUptoRow.holds Try.pinned (OpenSpec.upto combAloneSpec)

/-- 'oxgalllaw03.CombCounted', WHERE WHAT IT READS IS OF BULK AT MOST 1048576: true; the input reads as it did. -/
def combCountedUptoRow : OpenClaim := { program := "ytlaakmgdbhabfaa", sum := "f269dd679f58392e3ad40b7a66f4d4fe2b619f92074dd0510f8c5a374664dbde", func := "oxgall/oxgalllaw03.CombCounted", spec := "combCounted", unfollowed := true, recurses := true, plainKeys := false, apart := false, narrowed := true }
def CombCountedUptoSaid : Prop := combCountedUptoRow.holds Try.pinned (OpenSpec.upto combCountedSpec)

/-- 'oxgalllaw03.CombMoved', WHERE WHAT IT READS IS OF BULK AT MOST 1048576: true; the input reads as it did. -/
def combMovedUptoRow : OpenClaim := { program := "ytlaakmgdbhabfaa", sum := "f269dd679f58392e3ad40b7a66f4d4fe2b619f92074dd0510f8c5a374664dbde", func := "oxgall/oxgalllaw03.CombMoved", spec := "combMoved", unfollowed := true, recurses := true, plainKeys := false, apart := false, narrowed := true }
def CombMovedUptoSaid : Prop := combMovedUptoRow.holds Try.pinned (OpenSpec.upto combMovedSpec)

/-- 'oxgalllaw03.CombMet', WHERE WHAT IT READS IS OF BULK AT MOST 1048576: true; the input reads as it did. -/
def combMetUptoRow : OpenClaim := { program := "ytlaakmgdbhabfaa", sum := "f269dd679f58392e3ad40b7a66f4d4fe2b619f92074dd0510f8c5a374664dbde", func := "oxgall/oxgalllaw03.CombMet", spec := "combMet", unfollowed := true, recurses := true, plainKeys := false, apart := false, narrowed := true }
def CombMetUptoSaid : Prop := combMetUptoRow.holds Try.pinned (OpenSpec.upto combMetSpec)

/-- 'oxgalllaw03.CombKnown', WHERE WHAT IT READS IS OF BULK AT MOST 1048576: true; the input reads as it did. -/
def combKnownUptoRow : OpenClaim := { program := "ytlaakmgdbhabfaa", sum := "f269dd679f58392e3ad40b7a66f4d4fe2b619f92074dd0510f8c5a374664dbde", func := "oxgall/oxgalllaw03.CombKnown", spec := "combKnown", unfollowed := true, recurses := true, plainKeys := false, apart := false, narrowed := true }
def CombKnownUptoSaid : Prop := combKnownUptoRow.holds Try.pinned (OpenSpec.upto combKnownSpec)

end Rows
end Go.Proofs.Ytlaakmgdbhabfaa
