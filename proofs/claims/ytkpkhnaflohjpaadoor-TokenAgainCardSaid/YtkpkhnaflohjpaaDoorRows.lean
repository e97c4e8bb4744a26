/-
  NARROWER THAN 'FOR EVERY INPUT', by the rows' own cells (each row's printed sentence says how): TokenCuts: laid · TokenEach: laid · TokenNames: laid · TokenAgain: laid · TokenQuotes: laid.
  DERIVED. THE GIVEN ROWS OF THIS SEAT. 5 by the template 'for every input the law returns true; each argument reads behind the call as it read before'; 0 by the template 'total and deterministic' (their statements: YtkpkhnaflohjpaaDoorTotals.lean).
  GIVEN WITH THE SEED: the statements are not yours to turn. If you find one false, say at which input.
  Laid BY PROGRAM, IN A SANDBOX (cutbox-rows.mjs): the forced cells as the released guide's own fill.sh prints them over the translation 55d7f6e1ac8c9f3b… (all of the seat's roots in one cut). By AI agents, Wed Nov 11 2026. No macro, syntax, notation, axiom, sorry.
-/
import Derived.Test.YtkpkhnaflohjpaaDoorChecked
import GoSem.Claim
import GoSem.ClaimJoined
import GoSem.ClaimMapViews
import Derived.JoinedTies
import Derived.KernelRfl
namespace Go.Proofs.YtkpkhnaflohjpaaDoor
/- THE CELL 'sum', in the pinned program and in every row, IS THE sha256 OF THE DUMP (.gsa) THAT YtkpkhnaflohjpaaDoorProg.lean LOADS. Nothing in Lean hashes anything: it is a label: what it is worth is what the hold of that sum in a sandbox is worth. -/
noncomputable def Tryd.pinned : Pinned := { name := "ytkpkhnaflohjpaadoor", sum := "55d7f6e1ac8c9f3b91ed69e06657d253c3ab633f5093f5885335b714a4bb3167", checked := Tryd.checked }
namespace Rows
def none {H : Type} : Left H := { results := [], args := [] }

/- WHAT THE LISTED PACKAGE-LEVEL VARIABLES READ AS WHEN THE CALL BEGINS. Each datum BY PROGRAM (the guide's laid-datum.mjs) off the statement by which the dump's own 'gosem.cut.vars' lays the variable. In a bare row this is a premise. The card (YtkpkhnaflohjpaaDoorCards.lean) ties it to the program's text. -/
def laid_syllogism_token_signs {H : Type} : DataW H := .agg [.lit (.string [60, 61, 62]), .lit (.string [60, 126, 62]), .lit (.string [61, 62]), .lit (.string [60, 61]), .lit (.string [126, 124]), .lit (.string [126, 38]), .lit (.string [33, 61]), .lit (.string [40]), .lit (.string [41]), .lit (.string [91]), .lit (.string [93]), .lit (.string [44]), .lit (.string [46]), .lit (.string [58]), .lit (.string [38]), .lit (.string [124]), .lit (.string [126]), .lit (.string [61]), .lit (.string [33]), .lit (.string [63])]

/-- 'syllogismlaw12.TokenCuts': WHATEVER THE INPUT: true; the input reads as it did. -/
def tokenCutsSpec : ChangeSpec := { name := "tokenCuts", fn := fun _ => fun
  | [d] => { results := [.lit (.bool true)], args := [d] }
  | _ => none }
def tokenCutsRow : OpenClaim := { program := "ytkpkhnaflohjpaadoor", sum := "55d7f6e1ac8c9f3b91ed69e06657d253c3ab633f5093f5885335b714a4bb3167", func := "syllogism/syllogismlaw12.TokenCuts", spec := "tokenCuts", unfollowed := true, recurses := true, named := ["syllogism/token.signs"], apart := false, laid := [("syllogism/token.signs", laid_syllogism_token_signs)] }
def TokenCutsSaid : Prop := tokenCutsRow.holds Tryd.pinned (OpenSpec.ofChange tokenCutsSpec)

/-- ITS FALSE NEIGHBOUR: 'it returns false'. Refute it at one input. -/
def tokenCutsWrong : ChangeSpec := { name := "tokenCuts", fn := fun _ => fun
  | [d] => { results := [.lit (.bool false)], args := [d] }
  | _ => none }
def TokenCutsWrongFalsely : Prop := tokenCutsRow.holds Tryd.pinned (OpenSpec.ofChange tokenCutsWrong)

/-- 'syllogismlaw12.TokenEach': WHATEVER THE INPUT: true; the input reads as it did. -/
def tokenEachSpec : ChangeSpec := { name := "tokenEach", fn := fun _ => fun
  | [d1, d2] => { results := [.lit (.bool true)], args := [d1, d2] }
  | _ => none }
def tokenEachRow : OpenClaim := { program := "ytkpkhnaflohjpaadoor", sum := "55d7f6e1ac8c9f3b91ed69e06657d253c3ab633f5093f5885335b714a4bb3167", func := "syllogism/syllogismlaw12.TokenEach", spec := "tokenEach", unfollowed := true, recurses := true, named := ["syllogism/token.signs"], apart := false, laid := [("syllogism/token.signs", laid_syllogism_token_signs)] }
def TokenEachSaid : Prop := tokenEachRow.holds Tryd.pinned (OpenSpec.ofChange tokenEachSpec)

/-- ITS FALSE NEIGHBOUR: 'it returns false'. Refute it at one input. -/
def tokenEachWrong : ChangeSpec := { name := "tokenEach", fn := fun _ => fun
  | [d1, d2] => { results := [.lit (.bool false)], args := [d1, d2] }
  | _ => none }
def TokenEachWrongFalsely : Prop := tokenEachRow.holds Tryd.pinned (OpenSpec.ofChange tokenEachWrong)

/-- 'syllogismlaw12.TokenNames': WHATEVER THE INPUT: true; the input reads as it did. -/
def tokenNamesSpec : ChangeSpec := { name := "tokenNames", fn := fun _ => fun
  | [d] => { results := [.lit (.bool true)], args := [d] }
  | _ => none }
def tokenNamesRow : OpenClaim := { program := "ytkpkhnaflohjpaadoor", sum := "55d7f6e1ac8c9f3b91ed69e06657d253c3ab633f5093f5885335b714a4bb3167", func := "syllogism/syllogismlaw12.TokenNames", spec := "tokenNames", unfollowed := true, recurses := true, named := ["syllogism/token.signs"], apart := false, laid := [("syllogism/token.signs", laid_syllogism_token_signs)] }
def TokenNamesSaid : Prop := tokenNamesRow.holds Tryd.pinned (OpenSpec.ofChange tokenNamesSpec)

/-- ITS FALSE NEIGHBOUR: 'it returns false'. Refute it at one input. -/
def tokenNamesWrong : ChangeSpec := { name := "tokenNames", fn := fun _ => fun
  | [d] => { results := [.lit (.bool false)], args := [d] }
  | _ => none }
def TokenNamesWrongFalsely : Prop := tokenNamesRow.holds Tryd.pinned (OpenSpec.ofChange tokenNamesWrong)

/-- 'syllogismlaw12.TokenAgain': WHATEVER THE INPUT: true; the input reads as it did. -/
def tokenAgainSpec : ChangeSpec := { name := "tokenAgain", fn := fun _ => fun
  | [d1, d2] => { results := [.lit (.bool true)], args := [d1, d2] }
  | _ => none }
def tokenAgainRow : OpenClaim := { program := "ytkpkhnaflohjpaadoor", sum := "55d7f6e1ac8c9f3b91ed69e06657d253c3ab633f5093f5885335b714a4bb3167", func := "syllogism/syllogismlaw12.TokenAgain", spec := "tokenAgain", unfollowed := true, recurses := true, named := ["syllogism/token.signs"], apart := false, laid := [("syllogism/token.signs", laid_syllogism_token_signs)] }
def TokenAgainSaid : Prop := tokenAgainRow.holds Tryd.pinned (OpenSpec.ofChange tokenAgainSpec)

/-- ITS FALSE NEIGHBOUR: 'it returns false'. Refute it at one input. -/
def tokenAgainWrong : ChangeSpec := { name := "tokenAgain", fn := fun _ => fun
  | [d1, d2] => { results := [.lit (.bool false)], args := [d1, d2] }
  | _ => none }
def TokenAgainWrongFalsely : Prop := tokenAgainRow.holds Tryd.pinned (OpenSpec.ofChange tokenAgainWrong)

/-- 'syllogismlaw12.TokenQuotes': WHATEVER THE INPUT: true; the input reads as it did. -/
def tokenQuotesSpec : ChangeSpec := { name := "tokenQuotes", fn := fun _ => fun
  | [d] => { results := [.lit (.bool true)], args := [d] }
  | _ => none }
def tokenQuotesRow : OpenClaim := { program := "ytkpkhnaflohjpaadoor", sum := "55d7f6e1ac8c9f3b91ed69e06657d253c3ab633f5093f5885335b714a4bb3167", func := "syllogism/syllogismlaw12.TokenQuotes", spec := "tokenQuotes", unfollowed := true, recurses := true, named := ["syllogism/token.signs"], apart := false, laid := [("syllogism/token.signs", laid_syllogism_token_signs)] }
def TokenQuotesSaid : Prop := tokenQuotesRow.holds Tryd.pinned (OpenSpec.ofChange tokenQuotesSpec)

/-- ITS FALSE NEIGHBOUR: 'it returns false'. Refute it at one input. -/
def tokenQuotesWrong : ChangeSpec := { name := "tokenQuotes", fn := fun _ => fun
  | [d] => { results := [.lit (.bool false)], args := [d] }
  | _ => none }
def TokenQuotesWrongFalsely : Prop := tokenQuotesRow.holds Tryd.pinned (OpenSpec.ofChange tokenQuotesWrong)

/- THE SECOND FORM. 'bulk': how many values and letters a reading holds, each counted each time it is reached (what is shared counts as often as it is met; a slice's spare places count too). A statement '..UptoSaid' is the law's where the arguments, and the package variables that the reading takes, are together of bulk at most 1048576: NARROWER than '..Said'. Prove '..Said' where nothing that the law and all that it calls make is longer than what came in: it says more and counts as full. Else prove '..UptoSaid'. A law counts once. -/
mutual
def uptoBulk {H : Type} : DataW H → Nat
  | .lit (.string bytes) => bytes.length + 1
  | .lit _ => 1
  | .nil => 1
  | .ptr d => uptoBulk d + 1
  | .slice elems spare => uptoBulkAll elems + uptoBulkAll spare + 1
  | .agg parts => uptoBulkAll parts + 1
  | .iface _ d => uptoBulk d + 1
  | .map entries => uptoBulkEntries entries + 1
  | .held _ => 1
def uptoBulkAll {H : Type} : List (DataW H) → Nat
  | [] => 0
  | d :: r => uptoBulk d + uptoBulkAll r
def uptoBulkEntries {H : Type} : List (Lit × DataW H) → Nat
  | [] => 0
  | x :: r => uptoBulkEntry x + uptoBulkEntries r
def uptoBulkEntry {H : Type} : Lit × DataW H → Nat
  | (.string bytes, d) => bytes.length + uptoBulk d + 1
  | (_, d) => uptoBulk d + 1
 end
def uptoSmall : (H : Type) → List (DataW H) → Bool := fun _ ds => decide (uptoBulkAll ds ≤ 1048576)
def OpenSpec.upto (s : _root_.Go.ChangeSpec) : _root_.Go.OpenSpec := { _root_.Go.OpenSpec.ofChange s with cond := some uptoSmall }

/-- 'syllogismlaw12.TokenCuts', WHERE WHAT IT READS IS OF BULK AT MOST 1048576: true; the input reads as it did. -/
def tokenCutsUptoRow : OpenClaim := { program := "ytkpkhnaflohjpaadoor", sum := "55d7f6e1ac8c9f3b91ed69e06657d253c3ab633f5093f5885335b714a4bb3167", func := "syllogism/syllogismlaw12.TokenCuts", spec := "tokenCuts", unfollowed := true, recurses := true, named := ["syllogism/token.signs"], apart := false, laid := [("syllogism/token.signs", laid_syllogism_token_signs)], narrowed := true }
def TokenCutsUptoSaid : Prop := tokenCutsUptoRow.holds Tryd.pinned (OpenSpec.upto tokenCutsSpec)

/-- 'syllogismlaw12.TokenEach', WHERE WHAT IT READS IS OF BULK AT MOST 1048576: true; the input reads as it did. -/
def tokenEachUptoRow : OpenClaim := { program := "ytkpkhnaflohjpaadoor", sum := "55d7f6e1ac8c9f3b91ed69e06657d253c3ab633f5093f5885335b714a4bb3167", func := "syllogism/syllogismlaw12.TokenEach", spec := "tokenEach", unfollowed := true, recurses := true, named := ["syllogism/token.signs"], apart := false, laid := [("syllogism/token.signs", laid_syllogism_token_signs)], narrowed := true }
def TokenEachUptoSaid : Prop := tokenEachUptoRow.holds Tryd.pinned (OpenSpec.upto tokenEachSpec)

/-- 'syllogismlaw12.TokenNames', WHERE WHAT IT READS IS OF BULK AT MOST 1048576: true; the input reads as it did. -/
def tokenNamesUptoRow : OpenClaim := { program := "ytkpkhnaflohjpaadoor", sum := "55d7f6e1ac8c9f3b91ed69e06657d253c3ab633f5093f5885335b714a4bb3167", func := "syllogism/syllogismlaw12.TokenNames", spec := "tokenNames", unfollowed := true, recurses := true, named := ["syllogism/token.signs"], apart := false, laid := [("syllogism/token.signs", laid_syllogism_token_signs)], narrowed := true }
def TokenNamesUptoSaid : Prop := tokenNamesUptoRow.holds Tryd.pinned (OpenSpec.upto tokenNamesSpec)

/-- 'syllogismlaw12.TokenAgain', WHERE WHAT IT READS IS OF BULK AT MOST 1048576: true; the input reads as it did. -/
def tokenAgainUptoRow : OpenClaim := { program := "ytkpkhnaflohjpaadoor", sum := "55d7f6e1ac8c9f3b91ed69e06657d253c3ab633f5093f5885335b714a4bb3167", func := "syllogism/syllogismlaw12.TokenAgain", spec := "tokenAgain", unfollowed := true, recurses := true, named := ["syllogism/token.signs"], apart := false, laid := [("syllogism/token.signs", laid_syllogism_token_signs)], narrowed := true }
def TokenAgainUptoSaid : Prop := tokenAgainUptoRow.holds Tryd.pinned (OpenSpec.upto tokenAgainSpec)

/-- 'syllogismlaw12.TokenQuotes', WHERE WHAT IT READS IS OF BULK AT MOST 1048576: true; the input reads as it did. -/
def tokenQuotesUptoRow : OpenClaim := { program := "ytkpkhnaflohjpaadoor", sum := "55d7f6e1ac8c9f3b91ed69e06657d253c3ab633f5093f5885335b714a4bb3167", func := "syllogism/syllogismlaw12.TokenQuotes", spec := "tokenQuotes", unfollowed := true, recurses := true, named := ["syllogism/token.signs"], apart := false, laid := [("syllogism/token.signs", laid_syllogism_token_signs)], narrowed := true }
def TokenQuotesUptoSaid : Prop := tokenQuotesUptoRow.holds Tryd.pinned (OpenSpec.upto tokenQuotesSpec)

end Rows
end Go.Proofs.YtkpkhnaflohjpaaDoor
