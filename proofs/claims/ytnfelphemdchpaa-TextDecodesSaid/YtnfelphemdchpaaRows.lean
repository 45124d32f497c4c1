/-
  No cell of these rows narrows 'for every input' (looked for: loops, veiled, ifaces, maps, wideKeys, modest, calm, conditions, laid).
  DERIVED. THE GIVEN ROWS OF THIS SEAT. 8 by the template 'for every input the law returns true; each argument reads behind the call as it read before'; 0 by the template 'total and deterministic' (their statements: YtnfelphemdchpaaTotals.lean).
  GIVEN WITH THE SEED: the statements are not yours to turn. If you find one false, say at which input.
  Laid BY PROGRAM, IN A SANDBOX (cutbox-rows.mjs): the forced cells as the released guide's own fill.sh prints them over the translation 92f656977458786e… (all of the seat's roots in one cut). By AI agents, Wed Nov 11 2026. No macro, syntax, notation, axiom, sorry.
-/
import Derived.Test.YtnfelphemdchpaaChecked
import GoSem.Claim
import GoSem.ClaimJoined
import GoSem.ClaimMapViews
import Derived.JoinedTies
import Derived.KernelRfl
namespace Go.Proofs.Ytnfelphemdchpaa
/- THE CELL 'sum', in the pinned program and in every row, IS THE sha256 OF THE DUMP (.gsa) THAT YtnfelphemdchpaaProg.lean LOADS. Nothing in Lean hashes anything: it is a label: what it is worth is what the hold of that sum in a sandbox is worth. -/
noncomputable def Try.pinned : Pinned := { name := "ytnfelphemdchpaa", sum := "92f656977458786e8e3926e7258e5ce082eaef5f93d568cd17f6545133360443", checked := Try.checked }
namespace Rows
def none {H : Type} : Left H := { results := [], args := [] }

/-- 'rexmilllaw04.TextEncodes': WHATEVER THE INPUT: true; the input reads as it did. -/
def textEncodesSpec : ChangeSpec := { name := "textEncodes", fn := fun _ => fun
  | [d1, d2, d3] => { results := [.lit (.bool true)], args := [d1, d2, d3] }
  | _ => none }
def textEncodesRow : OpenClaim := { program := "ytnfelphemdchpaa", sum := "92f656977458786e8e3926e7258e5ce082eaef5f93d568cd17f6545133360443", func := "rexmill/rexmilllaw04.TextEncodes", spec := "textEncodes", unfollowed := true, recurses := true, apart := false }
def TextEncodesSaid : Prop := textEncodesRow.holds Try.pinned (OpenSpec.ofChange textEncodesSpec)

/-- ITS FALSE NEIGHBOUR: 'it returns false'. Refute it at one input. -/
def textEncodesWrong : ChangeSpec := { name := "textEncodes", fn := fun _ => fun
  | [d1, d2, d3] => { results := [.lit (.bool false)], args := [d1, d2, d3] }
  | _ => none }
def TextEncodesWrongFalsely : Prop := textEncodesRow.holds Try.pinned (OpenSpec.ofChange textEncodesWrong)

/-- 'rexmilllaw04.TextDecodes': WHATEVER THE INPUT: true; the input reads as it did. -/
def textDecodesSpec : ChangeSpec := { name := "textDecodes", fn := fun _ => fun
  | [d1, d2, d3, d4, d5] => { results := [.lit (.bool true)], args := [d1, d2, d3, d4, d5] }
  | _ => none }
def textDecodesRow : OpenClaim := { program := "ytnfelphemdchpaa", sum := "92f656977458786e8e3926e7258e5ce082eaef5f93d568cd17f6545133360443", func := "rexmill/rexmilllaw04.TextDecodes", spec := "textDecodes", unfollowed := true, recurses := true, apart := false }
def TextDecodesSaid : Prop := textDecodesRow.holds Try.pinned (OpenSpec.ofChange textDecodesSpec)

/-- ITS FALSE NEIGHBOUR: 'it returns false'. Refute it at one input. -/
def textDecodesWrong : ChangeSpec := { name := "textDecodes", fn := fun _ => fun
  | [d1, d2, d3, d4, d5] => { results := [.lit (.bool false)], args := [d1, d2, d3, d4, d5] }
  | _ => none }
def TextDecodesWrongFalsely : Prop := textDecodesRow.holds Try.pinned (OpenSpec.ofChange textDecodesWrong)

/-- 'rexmilllaw04.TextLimits': WHATEVER THE INPUT: true; the input reads as it did. -/
def textLimitsSpec : ChangeSpec := { name := "textLimits", fn := fun _ => fun
  | [d1, d2, d3] => { results := [.lit (.bool true)], args := [d1, d2, d3] }
  | _ => none }
def textLimitsRow : OpenClaim := { program := "ytnfelphemdchpaa", sum := "92f656977458786e8e3926e7258e5ce082eaef5f93d568cd17f6545133360443", func := "rexmill/rexmilllaw04.TextLimits", spec := "textLimits", unfollowed := true, recurses := true, apart := false }
def TextLimitsSaid : Prop := textLimitsRow.holds Try.pinned (OpenSpec.ofChange textLimitsSpec)

/-- ITS FALSE NEIGHBOUR: 'it returns false'. Refute it at one input. -/
def textLimitsWrong : ChangeSpec := { name := "textLimits", fn := fun _ => fun
  | [d1, d2, d3] => { results := [.lit (.bool false)], args := [d1, d2, d3] }
  | _ => none }
def TextLimitsWrongFalsely : Prop := textLimitsRow.holds Try.pinned (OpenSpec.ofChange textLimitsWrong)

/-- 'rexmilllaw04.TextAsserts': WHATEVER THE INPUT: true; the input reads as it did. -/
def textAssertsSpec : ChangeSpec := { name := "textAsserts", fn := fun _ => fun
  | [d1, d2, d3, d4] => { results := [.lit (.bool true)], args := [d1, d2, d3, d4] }
  | _ => none }
def textAssertsRow : OpenClaim := { program := "ytnfelphemdchpaa", sum := "92f656977458786e8e3926e7258e5ce082eaef5f93d568cd17f6545133360443", func := "rexmill/rexmilllaw04.TextAsserts", spec := "textAsserts", unfollowed := true, recurses := true, apart := false }
def TextAssertsSaid : Prop := textAssertsRow.holds Try.pinned (OpenSpec.ofChange textAssertsSpec)

/-- ITS FALSE NEIGHBOUR: 'it returns false'. Refute it at one input. -/
def textAssertsWrong : ChangeSpec := { name := "textAsserts", fn := fun _ => fun
  | [d1, d2, d3, d4] => { results := [.lit (.bool false)], args := [d1, d2, d3, d4] }
  | _ => none }
def TextAssertsWrongFalsely : Prop := textAssertsRow.holds Try.pinned (OpenSpec.ofChange textAssertsWrong)

/-- 'rexmilllaw04.TextSplices': WHATEVER THE INPUT: true; the input reads as it did. -/
def textSplicesSpec : ChangeSpec := { name := "textSplices", fn := fun _ => fun
  | [d1, d2, d3, d4, d5] => { results := [.lit (.bool true)], args := [d1, d2, d3, d4, d5] }
  | _ => none }
def textSplicesRow : OpenClaim := { program := "ytnfelphemdchpaa", sum := "92f656977458786e8e3926e7258e5ce082eaef5f93d568cd17f6545133360443", func := "rexmill/rexmilllaw04.TextSplices", spec := "textSplices", unfollowed := true, recurses := true, apart := false }
def TextSplicesSaid : Prop := textSplicesRow.holds Try.pinned (OpenSpec.ofChange textSplicesSpec)

/-- ITS FALSE NEIGHBOUR: 'it returns false'. Refute it at one input. -/
def textSplicesWrong : ChangeSpec := { name := "textSplices", fn := fun _ => fun
  | [d1, d2, d3, d4, d5] => { results := [.lit (.bool false)], args := [d1, d2, d3, d4, d5] }
  | _ => none }
def TextSplicesWrongFalsely : Prop := textSplicesRow.holds Try.pinned (OpenSpec.ofChange textSplicesWrong)

/-- 'rexmilllaw04.TextLines': WHATEVER THE INPUT: true; the input reads as it did. -/
def textLinesSpec : ChangeSpec := { name := "textLines", fn := fun _ => fun
  | [d1, d2] => { results := [.lit (.bool true)], args := [d1, d2] }
  | _ => none }
def textLinesRow : OpenClaim := { program := "ytnfelphemdchpaa", sum := "92f656977458786e8e3926e7258e5ce082eaef5f93d568cd17f6545133360443", func := "rexmill/rexmilllaw04.TextLines", spec := "textLines", unfollowed := true, recurses := true, apart := false }
def TextLinesSaid : Prop := textLinesRow.holds Try.pinned (OpenSpec.ofChange textLinesSpec)

/-- ITS FALSE NEIGHBOUR: 'it returns false'. Refute it at one input. -/
def textLinesWrong : ChangeSpec := { name := "textLines", fn := fun _ => fun
  | [d1, d2] => { results := [.lit (.bool false)], args := [d1, d2] }
  | _ => none }
def TextLinesWrongFalsely : Prop := textLinesRow.holds Try.pinned (OpenSpec.ofChange textLinesWrong)

/-- 'rexmilllaw04.TextRound': WHATEVER THE INPUT: true; the input reads as it did. -/
def textRoundSpec : ChangeSpec := { name := "textRound", fn := fun _ => fun
  | [d1, d2, d3, d4, d5] => { results := [.lit (.bool true)], args := [d1, d2, d3, d4, d5] }
  | _ => none }
def textRoundRow : OpenClaim := { program := "ytnfelphemdchpaa", sum := "92f656977458786e8e3926e7258e5ce082eaef5f93d568cd17f6545133360443", func := "rexmill/rexmilllaw04.TextRound", spec := "textRound", unfollowed := true, recurses := true, apart := false }
def TextRoundSaid : Prop := textRoundRow.holds Try.pinned (OpenSpec.ofChange textRoundSpec)

/-- ITS FALSE NEIGHBOUR: 'it returns false'. Refute it at one input. -/
def textRoundWrong : ChangeSpec := { name := "textRound", fn := fun _ => fun
  | [d1, d2, d3, d4, d5] => { results := [.lit (.bool false)], args := [d1, d2, d3, d4, d5] }
  | _ => none }
def TextRoundWrongFalsely : Prop := textRoundRow.holds Try.pinned (OpenSpec.ofChange textRoundWrong)

/-- 'rexmilllaw04.TextSent': WHATEVER THE INPUT: true; the input reads as it did. -/
def textSentSpec : ChangeSpec := { name := "textSent", fn := fun _ => fun
  | [d1, d2, d3] => { results := [.lit (.bool true)], args := [d1, d2, d3] }
  | _ => none }
def textSentRow : OpenClaim := { program := "ytnfelphemdchpaa", sum := "92f656977458786e8e3926e7258e5ce082eaef5f93d568cd17f6545133360443", func := "rexmill/rexmilllaw04.TextSent", spec := "textSent", unfollowed := true, recurses := true, apart := false }
def TextSentSaid : Prop := textSentRow.holds Try.pinned (OpenSpec.ofChange textSentSpec)

/-- ITS FALSE NEIGHBOUR: 'it returns false'. Refute it at one input. -/
def textSentWrong : ChangeSpec := { name := "textSent", fn := fun _ => fun
  | [d1, d2, d3] => { results := [.lit (.bool false)], args := [d1, d2, d3] }
  | _ => none }
def TextSentWrongFalsely : Prop := textSentRow.holds Try.pinned (OpenSpec.ofChange textSentWrong)

/- THE SECOND FORM. 'bulk': how many values and letters a reading holds, each counted each time it is reached (what is shared counts as often as it is met; a slice's spare places count too). A statement '..UptoSaid' is the law's where the arguments, and the package variables that the reading takes, are together of bulk at most 1048576: NARROWER than '..Said'. Prove '..Said' where nothing that the law and all that it calls make is longer than what came in: it says more and counts as full. Else prove '..UptoSaid'. A law counts once. -/
mutual
def uptoBulk {H : Type} : DataW H → Nat
  | .lit (.string bytes) => bytes.length + 1
  | .lit _ => 1
  | .nil => 1
  | .ptr d => uptoBulk d + 1
  | .slice elems spare => uptoBulkAll elems + uptoBulkAll spare + 1
  | .agg parts => uptoBulkAll parts + 1
  | .iface _ d => uptoBulk d + 1
  | .map entries => uptoBulkEntries entries + 1
  | .held _ => 1
def uptoBulkAll {H : Type} : List (DataW H) → Nat
  | [] => 0
  | d :: r => uptoBulk d + uptoBulkAll r
def uptoBulkEntries {H : Type} : List (Lit × DataW H) → Nat
  | [] => 0
  | x :: r => uptoBulkEntry x + uptoBulkEntries r
def uptoBulkEntry {H : Type} : Lit × DataW H → Nat
  | (.string bytes, d) => bytes.length + uptoBulk d + 1
  | (_, d) => uptoBulk d + 1
 end
def uptoSmall : (H : Type) → List (DataW H) → Bool := fun _ ds => decide (uptoBulkAll ds ≤ 1048576)
def OpenSpec.upto (s : _root_.Go.ChangeSpec) : _root_.Go.OpenSpec := { _root_.Go.OpenSpec.ofChange s with cond := some uptoSmall }

/-- 'rexmilllaw04.TextEncodes', WHERE WHAT IT READS IS OF BULK AT MOST 1048576: true; the input reads as it did. -/
def textEncodesUptoRow : OpenClaim := { program := "ytnfelphemdchpaa", sum := "92f656977458786e8e3926e7258e5ce082eaef5f93d568cd17f6545133360443", func := "rexmill/rexmilllaw04.TextEncodes", spec := "textEncodes", unfollowed := true, recurses := true, apart := false, narrowed := true }
def TextEncodesUptoSaid : Prop := textEncodesUptoRow.holds Try.pinned (OpenSpec.upto textEncodesSpec)

/-- 'rexmilllaw04.TextDecodes', WHERE WHAT IT READS IS OF BULK AT MOST 1048576: true; the input reads as it did. -/
def textDecodesUptoRow : OpenClaim := { program := "ytnfelphemdchpaa", sum := "92f656977458786e8e3926e7258e5ce082eaef5f93d568cd17f6545133360443", func := "rexmill/rexmilllaw04.TextDecodes", spec := "textDecodes", unfollowed := true, recurses := true, apart := false, narrowed := true }
def TextDecodesUptoSaid : Prop := textDecodesUptoRow.holds Try.pinned (OpenSpec.upto textDecodesSpec)

/-- 'rexmilllaw04.TextLimits', WHERE WHAT IT READS IS OF BULK AT MOST 1048576: true; the input reads as it did. -/
def textLimitsUptoRow : OpenClaim := { program := "ytnfelphemdchpaa", sum := "92f656977458786e8e3926e7258e5ce082eaef5f93d568cd17f6545133360443", func := "rexmill/rexmilllaw04.TextLimits", spec := "textLimits", unfollowed := true, recurses := true, apart := false, narrowed := true }
def TextLimitsUptoSaid : Prop := textLimitsUptoRow.holds Try.pinned (OpenSpec.upto textLimitsSpec)

/-- 'rexmilllaw04.TextAsserts', WHERE WHAT IT READS IS OF BULK AT MOST 1048576: true; the input reads as it did. -/
def textAssertsUptoRow : OpenClaim := { program := "ytnfelphemdchpaa", sum := "92f656977458786e8e3926e7258e5ce082eaef5f93d568cd17f6545133360443", func := "rexmill/rexmilllaw04.TextAsserts", spec := "textAsserts", unfollowed := true, recurses := true, apart := false, narrowed := true }
def TextAssertsUptoSaid : Prop := textAssertsUptoRow.holds Try.pinned (OpenSpec.upto textAssertsSpec)

/-- 'rexmilllaw04.TextSplices', WHERE WHAT IT READS IS OF BULK AT MOST 1048576: true; the input reads as it did. -/
def textSplicesUptoRow : OpenClaim := { program := "ytnfelphemdchpaa", sum := "92f656977458786e8e3926e7258e5ce082eaef5f93d568cd17f6545133360443", func := "rexmill/rexmilllaw04.TextSplices", spec := "textSplices", unfollowed := true, recurses := true, apart := false, narrowed := true }
def TextSplicesUptoSaid : Prop := textSplicesUptoRow.holds Try.pinned (OpenSpec.upto textSplicesSpec)

/-- 'rexmilllaw04.TextLines', WHERE WHAT IT READS IS OF BULK AT MOST 1048576: true; the input reads as it did. -/
def textLinesUptoRow : OpenClaim := { program := "ytnfelphemdchpaa", sum := "92f656977458786e8e3926e7258e5ce082eaef5f93d568cd17f6545133360443", func := "rexmill/rexmilllaw04.TextLines", spec := "textLines", unfollowed := true, recurses := true, apart := false, narrowed := true }
def TextLinesUptoSaid : Prop := textLinesUptoRow.holds Try.pinned (OpenSpec.upto textLinesSpec)

/-- 'rexmilllaw04.TextRound', WHERE WHAT IT READS IS OF BULK AT MOST 1048576: true; the input reads as it did. -/
def textRoundUptoRow : OpenClaim := { program := "ytnfelphemdchpaa", sum := "92f656977458786e8e3926e7258e5ce082eaef5f93d568cd17f6545133360443", func := "rexmill/rexmilllaw04.TextRound", spec := "textRound", unfollowed := true, recurses := true, apart := false, narrowed := true }
def TextRoundUptoSaid : Prop := textRoundUptoRow.holds Try.pinned (OpenSpec.upto textRoundSpec)

/-- 'rexmilllaw04.TextSent', WHERE WHAT IT READS IS OF BULK AT MOST 1048576: true; the input reads as it did. -/
def textSentUptoRow : OpenClaim := { program := "ytnfelphemdchpaa", sum := "92f656977458786e8e3926e7258e5ce082eaef5f93d568cd17f6545133360443", func := "rexmill/rexmilllaw04.TextSent", spec := "textSent", unfollowed := true, recurses := true, apart := false, narrowed := true }
def TextSentUptoSaid : Prop := textSentUptoRow.holds Try.pinned (OpenSpec.upto textSentSpec)

end Rows
end Go.Proofs.Ytnfelphemdchpaa
