/-
  No cell of these rows narrows 'for every input' (looked for: loops, veiled, ifaces, maps, wideKeys, modest, calm, conditions, laid).
  DERIVED. THE GIVEN ROWS OF THIS SEAT. 13 by the template 'for every input the law returns true; each argument reads behind the call as it read before'; 0 by the template 'total and deterministic' (their statements: YtkbbhihndigmeaaTotals.lean).
  GIVEN WITH THE SEED: the statements are not yours to turn. If you find one false, say at which input.
  Laid BY PROGRAM, IN A SANDBOX (cutbox-rows.mjs): the forced cells as the released guide's own fill.sh prints them over the translation 22a9233fa3b50e6d… (all of the seat's roots in one cut). By AI agents, Wed Nov 11 2026. No macro, syntax, notation, axiom, sorry.
-/
import Derived.Test.YtkbbhihndigmeaaChecked
import GoSem.Claim
import GoSem.ClaimJoined
import GoSem.ClaimMapViews
import Derived.JoinedTies
import Derived.KernelRfl
namespace Go.Proofs.Ytkbbhihndigmeaa
/- THE CELL 'sum', in the pinned program and in every row, IS THE sha256 OF THE DUMP (.gsa) THAT YtkbbhihndigmeaaProg.lean LOADS. Nothing in Lean hashes anything: it is a label: what it is worth is what the hold of that sum in a sandbox is worth. -/
noncomputable def Try.pinned : Pinned := { name := "ytkbbhihndigmeaa", sum := "22a9233fa3b50e6d9adb5b948ab94fbc89be80b24950b2926367da49f1fa1421", checked := Try.checked }
namespace Rows
def none {H : Type} : Left H := { results := [], args := [] }

/-- 'porringerlaw03.SearchTables': WHATEVER THE INPUT: true; the input reads as it did. -/
def searchTablesSpec : ChangeSpec := { name := "searchTables", fn := fun _ => fun
  | [d1, d2, d3] => { results := [.lit (.bool true)], args := [d1, d2, d3] }
  | _ => none }
def searchTablesRow : OpenClaim := { program := "ytkbbhihndigmeaa", sum := "22a9233fa3b50e6d9adb5b948ab94fbc89be80b24950b2926367da49f1fa1421", func := "porringer/porringerlaw03.SearchTables", spec := "searchTables", unfollowed := true, recurses := true, plainKeys := false, apart := false }
def SearchTablesSaid : Prop := searchTablesRow.holds Try.pinned (OpenSpec.ofChange searchTablesSpec)

/-- ITS FALSE NEIGHBOUR: 'it returns false'. Refute it at one input. -/
def searchTablesWrong : ChangeSpec := { name := "searchTables", fn := fun _ => fun
  | [d1, d2, d3] => { results := [.lit (.bool false)], args := [d1, d2, d3] }
  | _ => none }
def SearchTablesWrongFalsely : Prop := searchTablesRow.holds Try.pinned (OpenSpec.ofChange searchTablesWrong)

/-- 'porringerlaw03.SearchValues': WHATEVER THE INPUT: true; the input reads as it did. -/
def searchValuesSpec : ChangeSpec := { name := "searchValues", fn := fun _ => fun
  | [d1, d2, d3] => { results := [.lit (.bool true)], args := [d1, d2, d3] }
  | _ => none }
def searchValuesRow : OpenClaim := { program := "ytkbbhihndigmeaa", sum := "22a9233fa3b50e6d9adb5b948ab94fbc89be80b24950b2926367da49f1fa1421", func := "porringer/porringerlaw03.SearchValues", spec := "searchValues", unfollowed := true, recurses := true, plainKeys := false, apart := false }
def SearchValuesSaid : Prop := searchValuesRow.holds Try.pinned (OpenSpec.ofChange searchValuesSpec)

/-- ITS FALSE NEIGHBOUR: 'it returns false'. Refute it at one input. -/
def searchValuesWrong : ChangeSpec := { name := "searchValues", fn := fun _ => fun
  | [d1, d2, d3] => { results := [.lit (.bool false)], args := [d1, d2, d3] }
  | _ => none }
def SearchValuesWrongFalsely : Prop := searchValuesRow.holds Try.pinned (OpenSpec.ofChange searchValuesWrong)

/-- 'porringerlaw03.SearchPures': WHATEVER THE INPUT: true; the input reads as it did. -/
def searchPuresSpec : ChangeSpec := { name := "searchPures", fn := fun _ => fun
  | [d1, d2] => { results := [.lit (.bool true)], args := [d1, d2] }
  | _ => none }
def searchPuresRow : OpenClaim := { program := "ytkbbhihndigmeaa", sum := "22a9233fa3b50e6d9adb5b948ab94fbc89be80b24950b2926367da49f1fa1421", func := "porringer/porringerlaw03.SearchPures", spec := "searchPures", unfollowed := true, recurses := true, plainKeys := false, apart := false }
def SearchPuresSaid : Prop := searchPuresRow.holds Try.pinned (OpenSpec.ofChange searchPuresSpec)

/-- ITS FALSE NEIGHBOUR: 'it returns false'. Refute it at one input. -/
def searchPuresWrong : ChangeSpec := { name := "searchPures", fn := fun _ => fun
  | [d1, d2] => { results := [.lit (.bool false)], args := [d1, d2] }
  | _ => none }
def SearchPuresWrongFalsely : Prop := searchPuresRow.holds Try.pinned (OpenSpec.ofChange searchPuresWrong)

/-- 'porringerlaw03.SearchUses': WHATEVER THE INPUT: true; the input reads as it did. -/
def searchUsesSpec : ChangeSpec := { name := "searchUses", fn := fun _ => fun
  | [d] => { results := [.lit (.bool true)], args := [d] }
  | _ => none }
def searchUsesRow : OpenClaim := { program := "ytkbbhihndigmeaa", sum := "22a9233fa3b50e6d9adb5b948ab94fbc89be80b24950b2926367da49f1fa1421", func := "porringer/porringerlaw03.SearchUses", spec := "searchUses", unfollowed := true, recurses := true, plainKeys := false, apart := false }
def SearchUsesSaid : Prop := searchUsesRow.holds Try.pinned (OpenSpec.ofChange searchUsesSpec)

/-- ITS FALSE NEIGHBOUR: 'it returns false'. Refute it at one input. -/
def searchUsesWrong : ChangeSpec := { name := "searchUses", fn := fun _ => fun
  | [d] => { results := [.lit (.bool false)], args := [d] }
  | _ => none }
def SearchUsesWrongFalsely : Prop := searchUsesRow.holds Try.pinned (OpenSpec.ofChange searchUsesWrong)

/-- 'porringerlaw03.SearchProved': WHATEVER THE INPUT: true; the input reads as it did. -/
def searchProvedSpec : ChangeSpec := { name := "searchProved", fn := fun _ => fun
  | [d1, d2, d3] => { results := [.lit (.bool true)], args := [d1, d2, d3] }
  | _ => none }
def searchProvedRow : OpenClaim := { program := "ytkbbhihndigmeaa", sum := "22a9233fa3b50e6d9adb5b948ab94fbc89be80b24950b2926367da49f1fa1421", func := "porringer/porringerlaw03.SearchProved", spec := "searchProved", unfollowed := true, recurses := true, plainKeys := false, apart := false }
def SearchProvedSaid : Prop := searchProvedRow.holds Try.pinned (OpenSpec.ofChange searchProvedSpec)

/-- ITS FALSE NEIGHBOUR: 'it returns false'. Refute it at one input. -/
def searchProvedWrong : ChangeSpec := { name := "searchProved", fn := fun _ => fun
  | [d1, d2, d3] => { results := [.lit (.bool false)], args := [d1, d2, d3] }
  | _ => none }
def SearchProvedWrongFalsely : Prop := searchProvedRow.holds Try.pinned (OpenSpec.ofChange searchProvedWrong)

/-- 'porringerlaw03.SearchPure': WHATEVER THE INPUT: true; the input reads as it did. -/
def searchPureSpec : ChangeSpec := { name := "searchPure", fn := fun _ => fun
  | [d1, d2, d3] => { results := [.lit (.bool true)], args := [d1, d2, d3] }
  | _ => none }
def searchPureRow : OpenClaim := { program := "ytkbbhihndigmeaa", sum := "22a9233fa3b50e6d9adb5b948ab94fbc89be80b24950b2926367da49f1fa1421", func := "porringer/porringerlaw03.SearchPure", spec := "searchPure", unfollowed := true, recurses := true, plainKeys := false, apart := false }
def SearchPureSaid : Prop := searchPureRow.holds Try.pinned (OpenSpec.ofChange searchPureSpec)

/-- ITS FALSE NEIGHBOUR: 'it returns false'. Refute it at one input. -/
def searchPureWrong : ChangeSpec := { name := "searchPure", fn := fun _ => fun
  | [d1, d2, d3] => { results := [.lit (.bool false)], args := [d1, d2, d3] }
  | _ => none }
def SearchPureWrongFalsely : Prop := searchPureRow.holds Try.pinned (OpenSpec.ofChange searchPureWrong)

/-- 'porringerlaw03.SearchUsed': WHATEVER THE INPUT: true; the input reads as it did. -/
def searchUsedSpec : ChangeSpec := { name := "searchUsed", fn := fun _ => fun
  | [d] => { results := [.lit (.bool true)], args := [d] }
  | _ => none }
def searchUsedRow : OpenClaim := { program := "ytkbbhihndigmeaa", sum := "22a9233fa3b50e6d9adb5b948ab94fbc89be80b24950b2926367da49f1fa1421", func := "porringer/porringerlaw03.SearchUsed", spec := "searchUsed", unfollowed := true, recurses := true, plainKeys := false, apart := false }
def SearchUsedSaid : Prop := searchUsedRow.holds Try.pinned (OpenSpec.ofChange searchUsedSpec)

/-- ITS FALSE NEIGHBOUR: 'it returns false'. Refute it at one input. -/
def searchUsedWrong : ChangeSpec := { name := "searchUsed", fn := fun _ => fun
  | [d] => { results := [.lit (.bool false)], args := [d] }
  | _ => none }
def SearchUsedWrongFalsely : Prop := searchUsedRow.holds Try.pinned (OpenSpec.ofChange searchUsedWrong)

/-- 'porringerlaw03.SearchMixed': WHATEVER THE INPUT: true; the input reads as it did. -/
def searchMixedSpec : ChangeSpec := { name := "searchMixed", fn := fun _ => fun
  | [d1, d2, d3] => { results := [.lit (.bool true)], args := [d1, d2, d3] }
  | _ => none }
def searchMixedRow : OpenClaim := { program := "ytkbbhihndigmeaa", sum := "22a9233fa3b50e6d9adb5b948ab94fbc89be80b24950b2926367da49f1fa1421", func := "porringer/porringerlaw03.SearchMixed", spec := "searchMixed", unfollowed := true, recurses := true, plainKeys := false, apart := false }
def SearchMixedSaid : Prop := searchMixedRow.holds Try.pinned (OpenSpec.ofChange searchMixedSpec)

/-- ITS FALSE NEIGHBOUR: 'it returns false'. Refute it at one input. -/
def searchMixedWrong : ChangeSpec := { name := "searchMixed", fn := fun _ => fun
  | [d1, d2, d3] => { results := [.lit (.bool false)], args := [d1, d2, d3] }
  | _ => none }
def SearchMixedWrongFalsely : Prop := searchMixedRow.holds Try.pinned (OpenSpec.ofChange searchMixedWrong)

/-- 'porringerlaw03.SearchLeft': WHATEVER THE INPUT: true; the input reads as it did. -/
def searchLeftSpec : ChangeSpec := { name := "searchLeft", fn := fun _ => fun
  | [d] => { results := [.lit (.bool true)], args := [d] }
  | _ => none }
def searchLeftRow : OpenClaim := { program := "ytkbbhihndigmeaa", sum := "22a9233fa3b50e6d9adb5b948ab94fbc89be80b24950b2926367da49f1fa1421", func := "porringer/porringerlaw03.SearchLeft", spec := "searchLeft", unfollowed := true, recurses := true, plainKeys := false, apart := false }
def SearchLeftSaid : Prop := searchLeftRow.holds Try.pinned (OpenSpec.ofChange searchLeftSpec)

/-- ITS FALSE NEIGHBOUR: 'it returns false'. Refute it at one input. -/
def searchLeftWrong : ChangeSpec := { name := "searchLeft", fn := fun _ => fun
  | [d] => { results := [.lit (.bool false)], args := [d] }
  | _ => none }
def SearchLeftWrongFalsely : Prop := searchLeftRow.holds Try.pinned (OpenSpec.ofChange searchLeftWrong)

/-- 'porringerlaw03.SearchScaled': WHATEVER THE INPUT: true; the input reads as it did. -/
def searchScaledSpec : ChangeSpec := { name := "searchScaled", fn := fun _ => fun
  | [d1, d2, d3] => { results := [.lit (.bool true)], args := [d1, d2, d3] }
  | _ => none }
def searchScaledRow : OpenClaim := { program := "ytkbbhihndigmeaa", sum := "22a9233fa3b50e6d9adb5b948ab94fbc89be80b24950b2926367da49f1fa1421", func := "porringer/porringerlaw03.SearchScaled", spec := "searchScaled", unfollowed := true, recurses := true, plainKeys := false, apart := false }
def SearchScaledSaid : Prop := searchScaledRow.holds Try.pinned (OpenSpec.ofChange searchScaledSpec)

/-- ITS FALSE NEIGHBOUR: 'it returns false'. Refute it at one input. -/
def searchScaledWrong : ChangeSpec := { name := "searchScaled", fn := fun _ => fun
  | [d1, d2, d3] => { results := [.lit (.bool false)], args := [d1, d2, d3] }
  | _ => none }
def SearchScaledWrongFalsely : Prop := searchScaledRow.holds Try.pinned (OpenSpec.ofChange searchScaledWrong)

/-- 'porringerlaw03.SearchTurned': WHATEVER THE INPUT: true; the input reads as it did. -/
def searchTurnedSpec : ChangeSpec := { name := "searchTurned", fn := fun _ => fun
  | [d1, d2, d3] => { results := [.lit (.bool true)], args := [d1, d2, d3] }
  | _ => none }
def searchTurnedRow : OpenClaim := { program := "ytkbbhihndigmeaa", sum := "22a9233fa3b50e6d9adb5b948ab94fbc89be80b24950b2926367da49f1fa1421", func := "porringer/porringerlaw03.SearchTurned", spec := "searchTurned", unfollowed := true, recurses := true, plainKeys := false, apart := false }
def SearchTurnedSaid : Prop := searchTurnedRow.holds Try.pinned (OpenSpec.ofChange searchTurnedSpec)

/-- ITS FALSE NEIGHBOUR: 'it returns false'. Refute it at one input. -/
def searchTurnedWrong : ChangeSpec := { name := "searchTurned", fn := fun _ => fun
  | [d1, d2, d3] => { results := [.lit (.bool false)], args := [d1, d2, d3] }
  | _ => none }
def SearchTurnedWrongFalsely : Prop := searchTurnedRow.holds Try.pinned (OpenSpec.ofChange searchTurnedWrong)

/-- 'porringerlaw03.SearchMore': WHATEVER THE INPUT: true; the input reads as it did. -/
def searchMoreSpec : ChangeSpec := { name := "searchMore", fn := fun _ => fun
  | [d1, d2, d3, d4] => { results := [.lit (.bool true)], args := [d1, d2, d3, d4] }
  | _ => none }
def searchMoreRow : OpenClaim := { program := "ytkbbhihndigmeaa", sum := "22a9233fa3b50e6d9adb5b948ab94fbc89be80b24950b2926367da49f1fa1421", func := "porringer/porringerlaw03.SearchMore", spec := "searchMore", unfollowed := true, recurses := true, plainKeys := false, apart := false }
def SearchMoreSaid : Prop := searchMoreRow.holds Try.pinned (OpenSpec.ofChange searchMoreSpec)

/-- ITS FALSE NEIGHBOUR: 'it returns false'. Refute it at one input. -/
def searchMoreWrong : ChangeSpec := { name := "searchMore", fn := fun _ => fun
  | [d1, d2, d3, d4] => { results := [.lit (.bool false)], args := [d1, d2, d3, d4] }
  | _ => none }
def SearchMoreWrongFalsely : Prop := searchMoreRow.holds Try.pinned (OpenSpec.ofChange searchMoreWrong)

/-- 'porringerlaw03.SearchKnown': WHATEVER THE INPUT: true; the input reads as it did. -/
def searchKnownSpec : ChangeSpec := { name := "searchKnown", fn := fun _ => fun
  | [] => { results := [.lit (.bool true)], args := [] }
  | _ => none }
def searchKnownRow : OpenClaim := { program := "ytkbbhihndigmeaa", sum := "22a9233fa3b50e6d9adb5b948ab94fbc89be80b24950b2926367da49f1fa1421", func := "porringer/porringerlaw03.SearchKnown", spec := "searchKnown", unfollowed := true, recurses := true, plainKeys := false, apart := false }
def SearchKnownSaid : Prop := searchKnownRow.holds Try.pinned (OpenSpec.ofChange searchKnownSpec)

/-- ITS FALSE NEIGHBOUR: 'it returns false'. Refute it at one input. -/
def searchKnownWrong : ChangeSpec := { name := "searchKnown", fn := fun _ => fun
  | [] => { results := [.lit (.bool false)], args := [] }
  | _ => none }
def SearchKnownWrongFalsely : Prop := searchKnownRow.holds Try.pinned (OpenSpec.ofChange searchKnownWrong)

/- THE SECOND FORM. 'bulk': how many values and letters a reading holds, each counted each time it is reached (what is shared counts as often as it is met; a slice's spare places count too). A statement '..UptoSaid' is the law's where the arguments, and the package variables that the reading takes, are together of bulk at most 1048576: NARROWER than '..Said'. Prove '..Said' where nothing that the law and all that it calls make is longer than what came in: it says more and counts as full. Else prove '..UptoSaid'. A law counts once. -/
mutual
def uptoBulk {H : Type} : DataW H → Nat
  | .lit (.string bytes) => bytes.length + 1
  | .lit _ => 1
  | .nil => 1
  | .ptr d => uptoBulk d + 1
  | .slice elems spare => uptoBulkAll elems + uptoBulkAll spare + 1
  | .agg parts => uptoBulkAll parts + 1
  | .iface _ d => uptoBulk d + 1
  | .map entries => uptoBulkEntries entries + 1
  | .held _ => 1
def uptoBulkAll {H : Type} : List (DataW H) → Nat
  | [] => 0
  | d :: r => uptoBulk d + uptoBulkAll r
def uptoBulkEntries {H : Type} : List (Lit × DataW H) → Nat
  | [] => 0
  | x :: r => uptoBulkEntry x + uptoBulkEntries r
def uptoBulkEntry {H : Type} : Lit × DataW H → Nat
  | (.string bytes, d) => bytes.length + uptoBulk d + 1
  | (_, d) => uptoBulk d + 1
 end
def uptoSmall : (H : Type) → List (DataW H) → Bool := fun _ ds => decide (uptoBulkAll ds ≤ 1048576)
def OpenSpec.upto (s : _root_.Go.ChangeSpec) : _root_.Go.OpenSpec := { _root_.Go.OpenSpec.ofChange s with cond := some uptoSmall }

/-- 'porringerlaw03.SearchTables', WHERE WHAT IT READS IS OF BULK AT MOST 1048576: true; the input reads as it did. -/
def searchTablesUptoRow : OpenClaim := { program := "ytkbbhihndigmeaa", sum := "22a9233fa3b50e6d9adb5b948ab94fbc89be80b24950b2926367da49f1fa1421", func := "porringer/porringerlaw03.SearchTables", spec := "searchTables", unfollowed := true, recurses := true, plainKeys := false, apart := false, narrowed := true }
def SearchTablesUptoSaid : Prop := searchTablesUptoRow.holds Try.pinned (OpenSpec.upto searchTablesSpec)

/-- 'porringerlaw03.SearchValues', WHERE WHAT IT READS IS OF BULK AT MOST 1048576: true; the input reads as it did. -/
def searchValuesUptoRow : OpenClaim := { program := "ytkbbhihndigmeaa", sum := "22a9233fa3b50e6d9adb5b948ab94fbc89be80b24950b2926367da49f1fa1421", func := "porringer/porringerlaw03.SearchValues", spec := "searchValues", unfollowed := true, recurses := true, plainKeys := false, apart := false, narrowed := true }
def SearchValuesUptoSaid : Prop := searchValuesUptoRow.holds Try.pinned (OpenSpec.upto searchValuesSpec)

/-- 'porringerlaw03.SearchPures', WHERE WHAT IT READS IS OF BULK AT MOST 1048576: true; the input reads as it did. -/
def searchPuresUptoRow : OpenClaim := { program := "ytkbbhihndigmeaa", sum := "22a9233fa3b50e6d9adb5b948ab94fbc89be80b24950b2926367da49f1fa1421", func := "porringer/porringerlaw03.SearchPures", spec := "searchPures", unfollowed := true, recurses := true, plainKeys := false, apart := false, narrowed := true }
def SearchPuresUptoSaid : Prop := searchPuresUptoRow.holds Try.pinned (OpenSpec.upto searchPuresSpec)

/-- 'porringerlaw03.SearchUses', WHERE WHAT IT READS IS OF BULK AT MOST 1048576: true; the input reads as it did. -/
def searchUsesUptoRow : OpenClaim := { program := "ytkbbhihndigmeaa", sum := "22a9233fa3b50e6d9adb5b948ab94fbc89be80b24950b2926367da49f1fa1421", func := "porringer/porringerlaw03.SearchUses", spec := "searchUses", unfollowed := true, recurses := true, plainKeys := false, apart := false, narrowed := true }
def SearchUsesUptoSaid : Prop := searchUsesUptoRow.holds Try.pinned (OpenSpec.upto searchUsesSpec)

/-- 'porringerlaw03.SearchProved', WHERE WHAT IT READS IS OF BULK AT MOST 1048576: true; the input reads as it did. -/
def searchProvedUptoRow : OpenClaim := { program := "ytkbbhihndigmeaa", sum := "22a9233fa3b50e6d9adb5b948ab94fbc89be80b24950b2926367da49f1fa1421", func := "porringer/porringerlaw03.SearchProved", spec := "searchProved", unfollowed := true, recurses := true, plainKeys := false, apart := false, narrowed := true }
def SearchProvedUptoSaid : Prop := searchProvedUptoRow.holds Try.pinned (OpenSpec.upto searchProvedSpec)

/-- 'porringerlaw03.SearchPure', WHERE WHAT IT READS IS OF BULK AT MOST 1048576: true; the input reads as it did. -/
def searchPureUptoRow : OpenClaim := { program := "ytkbbhihndigmeaa", sum := "22a9233fa3b50e6d9adb5b948ab94fbc89be80b24950b2926367da49f1fa1421", func := "porringer/porringerlaw03.SearchPure", spec := "searchPure", unfollowed := true, recurses := true, plainKeys := false, apart := false, narrowed := true }
def SearchPureUptoSaid : Prop := searchPureUptoRow.holds Try.pinned (OpenSpec.upto searchPureSpec)

/-- 'porringerlaw03.SearchUsed', WHERE WHAT IT READS IS OF BULK AT MOST 1048576: true; the input reads as it did. -/
def searchUsedUptoRow : OpenClaim := { program := "ytkbbhihndigmeaa", sum := "22a9233fa3b50e6d9adb5b948ab94fbc89be80b24950b2926367da49f1fa1421", func := "porringer/porringerlaw03.SearchUsed", spec := "searchUsed", unfollowed := true, recurses := true, plainKeys := false, apart := false, narrowed := true }
def SearchUsedUptoSaid : Prop := searchUsedUptoRow.holds Try.pinned (OpenSpec.upto searchUsedSpec)

/-- 'porringerlaw03.SearchMixed', WHERE WHAT IT READS IS OF BULK AT MOST 1048576: true; the input reads as it did. -/
def searchMixedUptoRow : OpenClaim := { program := "ytkbbhihndigmeaa", sum := "22a9233fa3b50e6d9adb5b948ab94fbc89be80b24950b2926367da49f1fa1421", func := "porringer/porringerlaw03.SearchMixed", spec := "searchMixed", unfollowed := true, recurses := true, plainKeys := false, apart := false, narrowed := true }
def SearchMixedUptoSaid : Prop := searchMixedUptoRow.holds Try.pinned (OpenSpec.upto searchMixedSpec)

/-- 'porringerlaw03.SearchLeft', WHERE WHAT IT READS IS OF BULK AT MOST 1048576: true; the input reads as it did. -/
def searchLeftUptoRow : OpenClaim := { program := "ytkbbhihndigmeaa", sum := "22a9233fa3b50e6d9adb5b948ab94fbc89be80b24950b2926367da49f1fa1421", func := "porringer/porringerlaw03.SearchLeft", spec := "searchLeft", unfollowed := true, recurses := true, plainKeys := false, apart := false, narrowed := true }
def SearchLeftUptoSaid : Prop := searchLeftUptoRow.holds Try.pinned (OpenSpec.upto searchLeftSpec)

/-- 'porringerlaw03.SearchScaled', WHERE WHAT IT READS IS OF BULK AT MOST 1048576: true; the input reads as it did. -/
def searchScaledUptoRow : OpenClaim := { program := "ytkbbhihndigmeaa", sum := "22a9233fa3b50e6d9adb5b948ab94fbc89be80b24950b2926367da49f1fa1421", func := "porringer/porringerlaw03.SearchScaled", spec := "searchScaled", unfollowed := true, recurses := true, plainKeys := false, apart := false, narrowed := true }
def SearchScaledUptoSaid : Prop := searchScaledUptoRow.holds Try.pinned (OpenSpec.upto searchScaledSpec)

/-- 'porringerlaw03.SearchTurned', WHERE WHAT IT READS IS OF BULK AT MOST 1048576: true; the input reads as it did. -/
def searchTurnedUptoRow : OpenClaim := { program := "ytkbbhihndigmeaa", sum := "22a9233fa3b50e6d9adb5b948ab94fbc89be80b24950b2926367da49f1fa1421", func := "porringer/porringerlaw03.SearchTurned", spec := "searchTurned", unfollowed := true, recurses := true, plainKeys := false, apart := false, narrowed := true }
def SearchTurnedUptoSaid : Prop := searchTurnedUptoRow.holds Try.pinned (OpenSpec.upto searchTurnedSpec)

/-- 'porringerlaw03.SearchMore', WHERE WHAT IT READS IS OF BULK AT MOST 1048576: true; the input reads as it did. -/
def searchMoreUptoRow : OpenClaim := { program := "ytkbbhihndigmeaa", sum := "22a9233fa3b50e6d9adb5b948ab94fbc89be80b24950b2926367da49f1fa1421", func := "porringer/porringerlaw03.SearchMore", spec := "searchMore", unfollowed := true, recurses := true, plainKeys := false, apart := false, narrowed := true }
def SearchMoreUptoSaid : Prop := searchMoreUptoRow.holds Try.pinned (OpenSpec.upto searchMoreSpec)

/-- 'porringerlaw03.SearchKnown', WHERE WHAT IT READS IS OF BULK AT MOST 1048576: true; the input reads as it did. -/
def searchKnownUptoRow : OpenClaim := { program := "ytkbbhihndigmeaa", sum := "22a9233fa3b50e6d9adb5b948ab94fbc89be80b24950b2926367da49f1fa1421", func := "porringer/porringerlaw03.SearchKnown", spec := "searchKnown", unfollowed := true, recurses := true, plainKeys := false, apart := false, narrowed := true }
def SearchKnownUptoSaid : Prop := searchKnownUptoRow.holds Try.pinned (OpenSpec.upto searchKnownSpec)

end Rows
end Go.Proofs.Ytkbbhihndigmeaa
