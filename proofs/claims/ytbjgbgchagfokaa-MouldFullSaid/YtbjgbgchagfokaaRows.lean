/-
  No cell of these rows narrows 'for every input' (looked for: loops, veiled, ifaces, maps, wideKeys, modest, calm, conditions, laid).
  DERIVED. THE GIVEN ROWS OF THIS SEAT. 12 by the template 'for every input the law returns true; each argument reads behind the call as it read before'; 0 by the template 'total and deterministic' (their statements: YtbjgbgchagfokaaTotals.lean).
  GIVEN WITH THE SEED: the statements are not yours to turn. If you find one false, say at which input.
  Laid BY PROGRAM, IN A SANDBOX (cutbox-rows.mjs): the forced cells as the released guide's own fill.sh prints them over the translation 4e7bba9045943dd8… (all of the seat's roots in one cut). By AI agents, Wed Nov 11 2026. No macro, syntax, notation, axiom, sorry.
-/
import Derived.Test.YtbjgbgchagfokaaChecked
import GoSem.Claim
import GoSem.ClaimJoined
import GoSem.ClaimMapViews
import Derived.JoinedTies
import Derived.KernelRfl
namespace Go.Proofs.Ytbjgbgchagfokaa
/- THE CELL 'sum', in the pinned program and in every row, IS THE sha256 OF THE DUMP (.gsa) THAT YtbjgbgchagfokaaProg.lean LOADS. Nothing in Lean hashes anything: it is a label: what it is worth is what the hold of that sum in a sandbox is worth. -/
noncomputable def Try.pinned : Pinned := { name := "ytbjgbgchagfokaa", sum := "4e7bba9045943dd84359dfd7a44b4cc306baf2f92808eec98748f15aaaad8383", checked := Try.checked }
namespace Rows
def none {H : Type} : Left H := { results := [], args := [] }

/-- 'porringerlaw02.MouldBooks': WHATEVER THE INPUT: true; the input reads as it did. -/
def mouldBooksSpec : ChangeSpec := { name := "mouldBooks", fn := fun _ => fun
  | [d1, d2] => { results := [.lit (.bool true)], args := [d1, d2] }
  | _ => none }
def mouldBooksRow : OpenClaim := { program := "ytbjgbgchagfokaa", sum := "4e7bba9045943dd84359dfd7a44b4cc306baf2f92808eec98748f15aaaad8383", func := "porringer/porringerlaw02.MouldBooks", spec := "mouldBooks", unfollowed := true, recurses := true, plainKeys := false, apart := false }
def MouldBooksSaid : Prop := mouldBooksRow.holds Try.pinned (OpenSpec.ofChange mouldBooksSpec)

/-- ITS FALSE NEIGHBOUR: 'it returns false'. Refute it at one input. -/
def mouldBooksWrong : ChangeSpec := { name := "mouldBooks", fn := fun _ => fun
  | [d1, d2] => { results := [.lit (.bool false)], args := [d1, d2] }
  | _ => none }
def MouldBooksWrongFalsely : Prop := mouldBooksRow.holds Try.pinned (OpenSpec.ofChange mouldBooksWrong)

/-- 'porringerlaw02.MouldLists': WHATEVER THE INPUT: true; the input reads as it did. -/
def mouldListsSpec : ChangeSpec := { name := "mouldLists", fn := fun _ => fun
  | [d1, d2, d3, d4] => { results := [.lit (.bool true)], args := [d1, d2, d3, d4] }
  | _ => none }
def mouldListsRow : OpenClaim := { program := "ytbjgbgchagfokaa", sum := "4e7bba9045943dd84359dfd7a44b4cc306baf2f92808eec98748f15aaaad8383", func := "porringer/porringerlaw02.MouldLists", spec := "mouldLists", unfollowed := true, recurses := true, plainKeys := false, apart := false }
def MouldListsSaid : Prop := mouldListsRow.holds Try.pinned (OpenSpec.ofChange mouldListsSpec)

/-- ITS FALSE NEIGHBOUR: 'it returns false'. Refute it at one input. -/
def mouldListsWrong : ChangeSpec := { name := "mouldLists", fn := fun _ => fun
  | [d1, d2, d3, d4] => { results := [.lit (.bool false)], args := [d1, d2, d3, d4] }
  | _ => none }
def MouldListsWrongFalsely : Prop := mouldListsRow.holds Try.pinned (OpenSpec.ofChange mouldListsWrong)

/-- 'porringerlaw02.MouldShorts': WHATEVER THE INPUT: true; the input reads as it did. -/
def mouldShortsSpec : ChangeSpec := { name := "mouldShorts", fn := fun _ => fun
  | [d1, d2] => { results := [.lit (.bool true)], args := [d1, d2] }
  | _ => none }
def mouldShortsRow : OpenClaim := { program := "ytbjgbgchagfokaa", sum := "4e7bba9045943dd84359dfd7a44b4cc306baf2f92808eec98748f15aaaad8383", func := "porringer/porringerlaw02.MouldShorts", spec := "mouldShorts", unfollowed := true, recurses := true, plainKeys := false, apart := false }
def MouldShortsSaid : Prop := mouldShortsRow.holds Try.pinned (OpenSpec.ofChange mouldShortsSpec)

/-- ITS FALSE NEIGHBOUR: 'it returns false'. Refute it at one input. -/
def mouldShortsWrong : ChangeSpec := { name := "mouldShorts", fn := fun _ => fun
  | [d1, d2] => { results := [.lit (.bool false)], args := [d1, d2] }
  | _ => none }
def MouldShortsWrongFalsely : Prop := mouldShortsRow.holds Try.pinned (OpenSpec.ofChange mouldShortsWrong)

/-- 'porringerlaw02.MouldProved': WHATEVER THE INPUT: true; the input reads as it did. -/
def mouldProvedSpec : ChangeSpec := { name := "mouldProved", fn := fun _ => fun
  | [d1, d2] => { results := [.lit (.bool true)], args := [d1, d2] }
  | _ => none }
def mouldProvedRow : OpenClaim := { program := "ytbjgbgchagfokaa", sum := "4e7bba9045943dd84359dfd7a44b4cc306baf2f92808eec98748f15aaaad8383", func := "porringer/porringerlaw02.MouldProved", spec := "mouldProved", unfollowed := true, recurses := true, plainKeys := false, apart := false }
def MouldProvedSaid : Prop := mouldProvedRow.holds Try.pinned (OpenSpec.ofChange mouldProvedSpec)

/-- ITS FALSE NEIGHBOUR: 'it returns false'. Refute it at one input. -/
def mouldProvedWrong : ChangeSpec := { name := "mouldProved", fn := fun _ => fun
  | [d1, d2] => { results := [.lit (.bool false)], args := [d1, d2] }
  | _ => none }
def MouldProvedWrongFalsely : Prop := mouldProvedRow.holds Try.pinned (OpenSpec.ofChange mouldProvedWrong)

/-- 'porringerlaw02.MouldSwapped': WHATEVER THE INPUT: true; the input reads as it did. -/
def mouldSwappedSpec : ChangeSpec := { name := "mouldSwapped", fn := fun _ => fun
  | [d1, d2, d3, d4] => { results := [.lit (.bool true)], args := [d1, d2, d3, d4] }
  | _ => none }
def mouldSwappedRow : OpenClaim := { program := "ytbjgbgchagfokaa", sum := "4e7bba9045943dd84359dfd7a44b4cc306baf2f92808eec98748f15aaaad8383", func := "porringer/porringerlaw02.MouldSwapped", spec := "mouldSwapped", unfollowed := true, recurses := true, plainKeys := false, apart := false }
def MouldSwappedSaid : Prop := mouldSwappedRow.holds Try.pinned (OpenSpec.ofChange mouldSwappedSpec)

/-- ITS FALSE NEIGHBOUR: 'it returns false'. Refute it at one input. -/
def mouldSwappedWrong : ChangeSpec := { name := "mouldSwapped", fn := fun _ => fun
  | [d1, d2, d3, d4] => { results := [.lit (.bool false)], args := [d1, d2, d3, d4] }
  | _ => none }
def MouldSwappedWrongFalsely : Prop := mouldSwappedRow.holds Try.pinned (OpenSpec.ofChange mouldSwappedWrong)

/-- 'porringerlaw02.MouldEither': WHATEVER THE INPUT: true; the input reads as it did. -/
def mouldEitherSpec : ChangeSpec := { name := "mouldEither", fn := fun _ => fun
  | [d1, d2, d3, d4] => { results := [.lit (.bool true)], args := [d1, d2, d3, d4] }
  | _ => none }
def mouldEitherRow : OpenClaim := { program := "ytbjgbgchagfokaa", sum := "4e7bba9045943dd84359dfd7a44b4cc306baf2f92808eec98748f15aaaad8383", func := "porringer/porringerlaw02.MouldEither", spec := "mouldEither", unfollowed := true, recurses := true, plainKeys := false, apart := false }
def MouldEitherSaid : Prop := mouldEitherRow.holds Try.pinned (OpenSpec.ofChange mouldEitherSpec)

/-- ITS FALSE NEIGHBOUR: 'it returns false'. Refute it at one input. -/
def mouldEitherWrong : ChangeSpec := { name := "mouldEither", fn := fun _ => fun
  | [d1, d2, d3, d4] => { results := [.lit (.bool false)], args := [d1, d2, d3, d4] }
  | _ => none }
def MouldEitherWrongFalsely : Prop := mouldEitherRow.holds Try.pinned (OpenSpec.ofChange mouldEitherWrong)

/-- 'porringerlaw02.MouldServed': WHATEVER THE INPUT: true; the input reads as it did. -/
def mouldServedSpec : ChangeSpec := { name := "mouldServed", fn := fun _ => fun
  | [d1, d2] => { results := [.lit (.bool true)], args := [d1, d2] }
  | _ => none }
def mouldServedRow : OpenClaim := { program := "ytbjgbgchagfokaa", sum := "4e7bba9045943dd84359dfd7a44b4cc306baf2f92808eec98748f15aaaad8383", func := "porringer/porringerlaw02.MouldServed", spec := "mouldServed", unfollowed := true, recurses := true, plainKeys := false, apart := false }
def MouldServedSaid : Prop := mouldServedRow.holds Try.pinned (OpenSpec.ofChange mouldServedSpec)

/-- ITS FALSE NEIGHBOUR: 'it returns false'. Refute it at one input. -/
def mouldServedWrong : ChangeSpec := { name := "mouldServed", fn := fun _ => fun
  | [d1, d2] => { results := [.lit (.bool false)], args := [d1, d2] }
  | _ => none }
def MouldServedWrongFalsely : Prop := mouldServedRow.holds Try.pinned (OpenSpec.ofChange mouldServedWrong)

/-- 'porringerlaw02.MouldFull': WHATEVER THE INPUT: true; the input reads as it did. -/
def mouldFullSpec : ChangeSpec := { name := "mouldFull", fn := fun _ => fun
  | [d1, d2, d3] => { results := [.lit (.bool true)], args := [d1, d2, d3] }
  | _ => none }
def mouldFullRow : OpenClaim := { program := "ytbjgbgchagfokaa", sum := "4e7bba9045943dd84359dfd7a44b4cc306baf2f92808eec98748f15aaaad8383", func := "porringer/porringerlaw02.MouldFull", spec := "mouldFull", unfollowed := true, recurses := true, plainKeys := false, apart := false }
def MouldFullSaid : Prop := mouldFullRow.holds Try.pinned (OpenSpec.ofChange mouldFullSpec)

/-- ITS FALSE NEIGHBOUR: 'it returns false'. Refute it at one input. -/
def mouldFullWrong : ChangeSpec := { name := "mouldFull", fn := fun _ => fun
  | [d1, d2, d3] => { results := [.lit (.bool false)], args := [d1, d2, d3] }
  | _ => none }
def MouldFullWrongFalsely : Prop := mouldFullRow.holds Try.pinned (OpenSpec.ofChange mouldFullWrong)

/-- 'porringerlaw02.MouldMore': WHATEVER THE INPUT: true; the input reads as it did. -/
def mouldMoreSpec : ChangeSpec := { name := "mouldMore", fn := fun _ => fun
  | [d1, d2, d3] => { results := [.lit (.bool true)], args := [d1, d2, d3] }
  | _ => none }
def mouldMoreRow : OpenClaim := { program := "ytbjgbgchagfokaa", sum := "4e7bba9045943dd84359dfd7a44b4cc306baf2f92808eec98748f15aaaad8383", func := "porringer/porringerlaw02.MouldMore", spec := "mouldMore", unfollowed := true, recurses := true, plainKeys := false, apart := false }
def MouldMoreSaid : Prop := mouldMoreRow.holds Try.pinned (OpenSpec.ofChange mouldMoreSpec)

/-- ITS FALSE NEIGHBOUR: 'it returns false'. Refute it at one input. -/
def mouldMoreWrong : ChangeSpec := { name := "mouldMore", fn := fun _ => fun
  | [d1, d2, d3] => { results := [.lit (.bool false)], args := [d1, d2, d3] }
  | _ => none }
def MouldMoreWrongFalsely : Prop := mouldMoreRow.holds Try.pinned (OpenSpec.ofChange mouldMoreWrong)

/-- 'porringerlaw02.MouldTurned': WHATEVER THE INPUT: true; the input reads as it did. -/
def mouldTurnedSpec : ChangeSpec := { name := "mouldTurned", fn := fun _ => fun
  | [d1, d2, d3, d4] => { results := [.lit (.bool true)], args := [d1, d2, d3, d4] }
  | _ => none }
def mouldTurnedRow : OpenClaim := { program := "ytbjgbgchagfokaa", sum := "4e7bba9045943dd84359dfd7a44b4cc306baf2f92808eec98748f15aaaad8383", func := "porringer/porringerlaw02.MouldTurned", spec := "mouldTurned", unfollowed := true, recurses := true, plainKeys := false, apart := false }
def MouldTurnedSaid : Prop := mouldTurnedRow.holds Try.pinned (OpenSpec.ofChange mouldTurnedSpec)

/-- ITS FALSE NEIGHBOUR: 'it returns false'. Refute it at one input. -/
def mouldTurnedWrong : ChangeSpec := { name := "mouldTurned", fn := fun _ => fun
  | [d1, d2, d3, d4] => { results := [.lit (.bool false)], args := [d1, d2, d3, d4] }
  | _ => none }
def MouldTurnedWrongFalsely : Prop := mouldTurnedRow.holds Try.pinned (OpenSpec.ofChange mouldTurnedWrong)

/-- 'porringerlaw02.MouldApart': WHATEVER THE INPUT: true; the input reads as it did. -/
def mouldApartSpec : ChangeSpec := { name := "mouldApart", fn := fun _ => fun
  | [d1, d2] => { results := [.lit (.bool true)], args := [d1, d2] }
  | _ => none }
def mouldApartRow : OpenClaim := { program := "ytbjgbgchagfokaa", sum := "4e7bba9045943dd84359dfd7a44b4cc306baf2f92808eec98748f15aaaad8383", func := "porringer/porringerlaw02.MouldApart", spec := "mouldApart", unfollowed := true, recurses := true, plainKeys := false, apart := false }
def MouldApartSaid : Prop := mouldApartRow.holds Try.pinned (OpenSpec.ofChange mouldApartSpec)

/-- ITS FALSE NEIGHBOUR: 'it returns false'. Refute it at one input. -/
def mouldApartWrong : ChangeSpec := { name := "mouldApart", fn := fun _ => fun
  | [d1, d2] => { results := [.lit (.bool false)], args := [d1, d2] }
  | _ => none }
def MouldApartWrongFalsely : Prop := mouldApartRow.holds Try.pinned (OpenSpec.ofChange mouldApartWrong)

/-- 'porringerlaw02.MouldKnown': WHATEVER THE INPUT: true; the input reads as it did. -/
def mouldKnownSpec : ChangeSpec := { name := "mouldKnown", fn := fun _ => fun
  | [] => { results := [.lit (.bool true)], args := [] }
  | _ => none }
def mouldKnownRow : OpenClaim := { program := "ytbjgbgchagfokaa", sum := "4e7bba9045943dd84359dfd7a44b4cc306baf2f92808eec98748f15aaaad8383", func := "porringer/porringerlaw02.MouldKnown", spec := "mouldKnown", unfollowed := true, recurses := true, plainKeys := false, apart := false }
def MouldKnownSaid : Prop := mouldKnownRow.holds Try.pinned (OpenSpec.ofChange mouldKnownSpec)

/-- ITS FALSE NEIGHBOUR: 'it returns false'. Refute it at one input. -/
def mouldKnownWrong : ChangeSpec := { name := "mouldKnown", fn := fun _ => fun
  | [] => { results := [.lit (.bool false)], args := [] }
  | _ => none }
def MouldKnownWrongFalsely : Prop := mouldKnownRow.holds Try.pinned (OpenSpec.ofChange mouldKnownWrong)

/- THE SECOND FORM. 'bulk': how many values and letters a reading holds, each counted each time it is reached (what is shared counts as often as it is met; a slice's spare places count too). A statement '..UptoSaid' is the law's where the arguments, and the package variables that the reading takes, are together of bulk at most 1048576: NARROWER than '..Said'. Prove '..Said' where nothing that the law and all that it calls make is longer than what came in: it says more and counts as full. Else prove '..UptoSaid'. A law counts once. -/
mutual
def uptoBulk {H : Type} : DataW H → Nat
  | .lit (.string bytes) => bytes.length + 1
  | .lit _ => 1
  | .nil => 1
  | .ptr d => uptoBulk d + 1
  | .slice elems spare => uptoBulkAll elems + uptoBulkAll spare + 1
  | .agg parts => uptoBulkAll parts + 1
  | .iface _ d => uptoBulk d + 1
  | .map entries => uptoBulkEntries entries + 1
  | .held _ => 1
def uptoBulkAll {H : Type} : List (DataW H) → Nat
  | [] => 0
  | d :: r => uptoBulk d + uptoBulkAll r
def uptoBulkEntries {H : Type} : List (Lit × DataW H) → Nat
  | [] => 0
  | x :: r => uptoBulkEntry x + uptoBulkEntries r
def uptoBulkEntry {H : Type} : Lit × DataW H → Nat
  | (.string bytes, d) => bytes.length + uptoBulk d + 1
  | (_, d) => uptoBulk d + 1
 end
def uptoSmall : (H : Type) → List (DataW H) → Bool := fun _ ds => decide (uptoBulkAll ds ≤ 1048576)
def OpenSpec.upto (s : _root_.Go.ChangeSpec) : _root_.Go.OpenSpec := { _root_.Go.OpenSpec.ofChange s with cond := some uptoSmall }

/-- 'porringerlaw02.MouldBooks', WHERE WHAT IT READS IS OF BULK AT MOST 1048576: true; the input reads as it did. -/
def mouldBooksUptoRow : OpenClaim := { program := "ytbjgbgchagfokaa", sum := "4e7bba9045943dd84359dfd7a44b4cc306baf2f92808eec98748f15aaaad8383", func := "porringer/porringerlaw02.MouldBooks", spec := "mouldBooks", unfollowed := true, recurses := true, plainKeys := false, apart := false, narrowed := true }
def MouldBooksUptoSaid : Prop := mouldBooksUptoRow.holds Try.pinned (OpenSpec.upto mouldBooksSpec)

/-- 'porringerlaw02.MouldLists', WHERE WHAT IT READS IS OF BULK AT MOST 1048576: true; the input reads as it did. -/
def mouldListsUptoRow : OpenClaim := { program := "ytbjgbgchagfokaa", sum := "4e7bba9045943dd84359dfd7a44b4cc306baf2f92808eec98748f15aaaad8383", func := "porringer/porringerlaw02.MouldLists", spec := "mouldLists", unfollowed := true, recurses := true, plainKeys := false, apart := false, narrowed := true }
def MouldListsUptoSaid : Prop := mouldListsUptoRow.holds Try.pinned (OpenSpec.upto mouldListsSpec)

/-- 'porringerlaw02.MouldShorts', WHERE WHAT IT READS IS OF BULK AT MOST 1048576: true; the input reads as it did. -/
def mouldShortsUptoRow : OpenClaim := { program := "ytbjgbgchagfokaa", sum := "4e7bba9045943dd84359dfd7a44b4cc306baf2f92808eec98748f15aaaad8383", func := "porringer/porringerlaw02.MouldShorts", spec := "mouldShorts", unfollowed := true, recurses := true, plainKeys := false, apart := false, narrowed := true }
def MouldShortsUptoSaid : Prop := mouldShortsUptoRow.holds Try.pinned (OpenSpec.upto mouldShortsSpec)

/-- 'porringerlaw02.MouldProved', WHERE WHAT IT READS IS OF BULK AT MOST 1048576: true; the input reads as it did. -/
def mouldProvedUptoRow : OpenClaim := { program := "ytbjgbgchagfokaa", sum := "4e7bba9045943dd84359dfd7a44b4cc306baf2f92808eec98748f15aaaad8383", func := "porringer/porringerlaw02.MouldProved", spec := "mouldProved", unfollowed := true, recurses := true, plainKeys := false, apart := false, narrowed := true }
def MouldProvedUptoSaid : Prop := mouldProvedUptoRow.holds Try.pinned (OpenSpec.upto mouldProvedSpec)

/-- 'porringerlaw02.MouldSwapped', WHERE WHAT IT READS IS OF BULK AT MOST 1048576: true; the input reads as it did. -/
def mouldSwappedUptoRow : OpenClaim := { program := "ytbjgbgchagfokaa", sum := "4e7bba9045943dd84359dfd7a44b4cc306baf2f92808eec98748f15aaaad8383", func := "porringer/porringerlaw02.MouldSwapped", spec := "mouldSwapped", unfollowed := true, recurses := true, plainKeys := false, apart := false, narrowed := true }
def MouldSwappedUptoSaid : Prop := mouldSwappedUptoRow.holds Try.pinned (OpenSpec.upto mouldSwappedSpec)

/-- 'porringerlaw02.MouldEither', WHERE WHAT IT READS IS OF BULK AT MOST 1048576: true; the input reads as it did. -/
def mouldEitherUptoRow : OpenClaim := { program := "ytbjgbgchagfokaa", sum := "4e7bba9045943dd84359dfd7a44b4cc306baf2f92808eec98748f15aaaad8383", func := "porringer/porringerlaw02.MouldEither", spec := "mouldEither", unfollowed := true, recurses := true, plainKeys := false, apart := false, narrowed := true }
def MouldEitherUptoSaid : Prop := mouldEitherUptoRow.holds Try.pinned (OpenSpec.upto mouldEitherSpec)

/-- 'porringerlaw02.MouldServed', WHERE WHAT IT READS IS OF BULK AT MOST 1048576: true; the input reads as it did. -/
def mouldServedUptoRow : OpenClaim := { program := "ytbjgbgchagfokaa", sum := "4e7bba9045943dd84359dfd7a44b4cc306baf2f92808eec98748f15aaaad8383", func := "porringer/porringerlaw02.MouldServed", spec := "mouldServed", unfollowed := true, recurses := true, plainKeys := false, apart := false, narrowed := true }
def MouldServedUptoSaid : Prop := mouldServedUptoRow.holds Try.pinned (OpenSpec.upto mouldServedSpec)

/-- 'porringerlaw02.MouldFull', WHERE WHAT IT READS IS OF BULK AT MOST 1048576: true; the input reads as it did. -/
def mouldFullUptoRow : OpenClaim := { program := "ytbjgbgchagfokaa", sum := "4e7bba9045943dd84359dfd7a44b4cc306baf2f92808eec98748f15aaaad8383", func := "porringer/porringerlaw02.MouldFull", spec := "mouldFull", unfollowed := true, recurses := true, plainKeys := false, apart := false, narrowed := true }
def MouldFullUptoSaid : Prop := mouldFullUptoRow.holds Try.pinned (OpenSpec.upto mouldFullSpec)

/-- 'porringerlaw02.MouldMore', WHERE WHAT IT READS IS OF BULK AT MOST 1048576: true; the input reads as it did. -/
def mouldMoreUptoRow : OpenClaim := { program := "ytbjgbgchagfokaa", sum := "4e7bba9045943dd84359dfd7a44b4cc306baf2f92808eec98748f15aaaad8383", func := "porringer/porringerlaw02.MouldMore", spec := "mouldMore", unfollowed := true, recurses := true, plainKeys := false, apart := false, narrowed := true }
def MouldMoreUptoSaid : Prop := mouldMoreUptoRow.holds Try.pinned (OpenSpec.upto mouldMoreSpec)

/-- 'porringerlaw02.MouldTurned', WHERE WHAT IT READS IS OF BULK AT MOST 1048576: true; the input reads as it did. -/
def mouldTurnedUptoRow : OpenClaim := { program := "ytbjgbgchagfokaa", sum := "4e7bba9045943dd84359dfd7a44b4cc306baf2f92808eec98748f15aaaad8383", func := "porringer/porringerlaw02.MouldTurned", spec := "mouldTurned", unfollowed := true, recurses := true, plainKeys := false, apart := false, narrowed := true }
def MouldTurnedUptoSaid : Prop := mouldTurnedUptoRow.holds Try.pinned (OpenSpec.upto mouldTurnedSpec)

/-- 'porringerlaw02.MouldApart', WHERE WHAT IT READS IS OF BULK AT MOST 1048576: true; the input reads as it did. -/
def mouldApartUptoRow : OpenClaim := { program := "ytbjgbgchagfokaa", sum := "4e7bba9045943dd84359dfd7a44b4cc306baf2f92808eec98748f15aaaad8383", func := "porringer/porringerlaw02.MouldApart", spec := "mouldApart", unfollowed := true, recurses := true, plainKeys := false, apart := false, narrowed := true }
def MouldApartUptoSaid : Prop := mouldApartUptoRow.holds Try.pinned (OpenSpec.upto mouldApartSpec)

/-- 'porringerlaw02.MouldKnown', WHERE WHAT IT READS IS OF BULK AT MOST 1048576: true; the input reads as it did. -/
def mouldKnownUptoRow : OpenClaim := { program := "ytbjgbgchagfokaa", sum := "4e7bba9045943dd84359dfd7a44b4cc306baf2f92808eec98748f15aaaad8383", func := "porringer/porringerlaw02.MouldKnown", spec := "mouldKnown", unfollowed := true, recurses := true, plainKeys := false, apart := false, narrowed := true }
def MouldKnownUptoSaid : Prop := mouldKnownUptoRow.holds Try.pinned (OpenSpec.upto mouldKnownSpec)

end Rows
end Go.Proofs.Ytbjgbgchagfokaa
