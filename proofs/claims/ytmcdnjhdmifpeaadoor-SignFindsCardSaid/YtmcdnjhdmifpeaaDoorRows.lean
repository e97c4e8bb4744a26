/-
  NARROWER THAN 'FOR EVERY INPUT', by the rows' own cells (each row's printed sentence says how): SignChecks: laid · SignFinds: laid · SignAdds: laid · SignFresh: laid · SignKeeps: laid.
  DERIVED. THE GIVEN ROWS OF THIS SEAT. 5 by the template 'for every input the law returns true; each argument reads behind the call as it read before'; 0 by the template 'total and deterministic' (their statements: YtmcdnjhdmifpeaaDoorTotals.lean).
  GIVEN WITH THE SEED: the statements are not yours to turn. If you find one false, say at which input.
  Laid BY PROGRAM, IN A SANDBOX (cutbox-rows.mjs): the forced cells as the released guide's own fill.sh prints them over the translation 203b7f9bdc2cbc7d… (all of the seat's roots in one cut). By AI agents, Wed Nov 11 2026. No macro, syntax, notation, axiom, sorry.
-/
import Derived.Test.YtmcdnjhdmifpeaaDoorChecked
import GoSem.Claim
import GoSem.ClaimJoined
import GoSem.ClaimMapViews
import Derived.JoinedTies
import Derived.KernelRfl
namespace Go.Proofs.YtmcdnjhdmifpeaaDoor
/- THE CELL 'sum', in the pinned program and in every row, IS THE sha256 OF THE DUMP (.gsa) THAT YtmcdnjhdmifpeaaDoorProg.lean LOADS. Nothing in Lean hashes anything: it is a label: what it is worth is what the hold of that sum in a sandbox is worth. -/
noncomputable def Tryd.pinned : Pinned := { name := "ytmcdnjhdmifpeaadoor", sum := "203b7f9bdc2cbc7d9b78836fc26d06c7b80fb86d68e544c126ad9eec83434c2d", checked := Tryd.checked }
namespace Rows
def none {H : Type} : Left H := { results := [], args := [] }

/- WHAT THE LISTED PACKAGE-LEVEL VARIABLES READ AS WHEN THE CALL BEGINS. Each datum BY PROGRAM (the guide's laid-datum.mjs) off the statement by which the dump's own 'gosem.cut.vars' lays the variable. In a bare row this is a premise. The card (YtmcdnjhdmifpeaaDoorCards.lean) ties it to the program's text. -/
def laid_syllogism_sign_truth {H : Type} : DataW H := .agg [.lit (.string [36, 116, 114, 117, 101]), .lit (.int .i64 0), .lit (.bool true)]
def laid_math_bits_deBruijn32tab {H : Type} : DataW H := .agg [.lit (.int .u8 0), .lit (.int .u8 1), .lit (.int .u8 28), .lit (.int .u8 2), .lit (.int .u8 29), .lit (.int .u8 14), .lit (.int .u8 24), .lit (.int .u8 3), .lit (.int .u8 30), .lit (.int .u8 22), .lit (.int .u8 20), .lit (.int .u8 15), .lit (.int .u8 25), .lit (.int .u8 17), .lit (.int .u8 4), .lit (.int .u8 8), .lit (.int .u8 31), .lit (.int .u8 27), .lit (.int .u8 13), .lit (.int .u8 23), .lit (.int .u8 21), .lit (.int .u8 19), .lit (.int .u8 16), .lit (.int .u8 7), .lit (.int .u8 26), .lit (.int .u8 12), .lit (.int .u8 18), .lit (.int .u8 6), .lit (.int .u8 11), .lit (.int .u8 5), .lit (.int .u8 10), .lit (.int .u8 9)]
def laid_math_bits_deBruijn64tab {H : Type} : DataW H := .agg [.lit (.int .u8 0), .lit (.int .u8 1), .lit (.int .u8 56), .lit (.int .u8 2), .lit (.int .u8 57), .lit (.int .u8 49), .lit (.int .u8 28), .lit (.int .u8 3), .lit (.int .u8 61), .lit (.int .u8 58), .lit (.int .u8 42), .lit (.int .u8 50), .lit (.int .u8 38), .lit (.int .u8 29), .lit (.int .u8 17), .lit (.int .u8 4), .lit (.int .u8 62), .lit (.int .u8 47), .lit (.int .u8 59), .lit (.int .u8 36), .lit (.int .u8 45), .lit (.int .u8 43), .lit (.int .u8 51), .lit (.int .u8 22), .lit (.int .u8 53), .lit (.int .u8 39), .lit (.int .u8 33), .lit (.int .u8 30), .lit (.int .u8 24), .lit (.int .u8 18), .lit (.int .u8 12), .lit (.int .u8 5), .lit (.int .u8 63), .lit (.int .u8 55), .lit (.int .u8 48), .lit (.int .u8 27), .lit (.int .u8 60), .lit (.int .u8 41), .lit (.int .u8 37), .lit (.int .u8 16), .lit (.int .u8 46), .lit (.int .u8 35), .lit (.int .u8 44), .lit (.int .u8 21), .lit (.int .u8 52), .lit (.int .u8 32), .lit (.int .u8 23), .lit (.int .u8 11), .lit (.int .u8 54), .lit (.int .u8 26), .lit (.int .u8 40), .lit (.int .u8 15), .lit (.int .u8 34), .lit (.int .u8 20), .lit (.int .u8 31), .lit (.int .u8 10), .lit (.int .u8 25), .lit (.int .u8 14), .lit (.int .u8 19), .lit (.int .u8 9), .lit (.int .u8 13), .lit (.int .u8 8), .lit (.int .u8 7), .lit (.int .u8 6)]
def laid_internal_strconv_uint64pow10 {H : Type} : DataW H := .agg [.lit (.int .u64 1), .lit (.int .u64 10), .lit (.int .u64 100), .lit (.int .u64 1000), .lit (.int .u64 10000), .lit (.int .u64 100000), .lit (.int .u64 1000000), .lit (.int .u64 10000000), .lit (.int .u64 100000000), .lit (.int .u64 1000000000), .lit (.int .u64 10000000000), .lit (.int .u64 100000000000), .lit (.int .u64 1000000000000), .lit (.int .u64 10000000000000), .lit (.int .u64 100000000000000), .lit (.int .u64 1000000000000000), .lit (.int .u64 10000000000000000), .lit (.int .u64 100000000000000000), .lit (.int .u64 1000000000000000000), .lit (.int .u64 10000000000000000000)]

/-- 'syllogismlaw01.SignChecks': WHATEVER THE INPUT: true; the input reads as it did. -/
def signChecksSpec : ChangeSpec := { name := "signChecks", fn := fun _ => fun
  | [d1, d2] => { results := [.lit (.bool true)], args := [d1, d2] }
  | _ => none }
def signChecksRow : OpenClaim := { program := "ytmcdnjhdmifpeaadoor", sum := "203b7f9bdc2cbc7d9b78836fc26d06c7b80fb86d68e544c126ad9eec83434c2d", func := "syllogism/syllogismlaw01.SignChecks", spec := "signChecks", unfollowed := true, recurses := true, named := ["syllogism/sign.truth"], plainKeys := false, apart := false, laid := [("syllogism/sign.truth", laid_syllogism_sign_truth)] }
def SignChecksSaid : Prop := signChecksRow.holds Tryd.pinned (OpenSpec.ofChange signChecksSpec)

/-- ITS FALSE NEIGHBOUR: 'it returns false'. Refute it at one input. -/
def signChecksWrong : ChangeSpec := { name := "signChecks", fn := fun _ => fun
  | [d1, d2] => { results := [.lit (.bool false)], args := [d1, d2] }
  | _ => none }
def SignChecksWrongFalsely : Prop := signChecksRow.holds Tryd.pinned (OpenSpec.ofChange signChecksWrong)

/-- 'syllogismlaw01.SignFinds': WHATEVER THE INPUT: true; the input reads as it did. -/
def signFindsSpec : ChangeSpec := { name := "signFinds", fn := fun _ => fun
  | [d1, d2, d3, d4] => { results := [.lit (.bool true)], args := [d1, d2, d3, d4] }
  | _ => none }
def signFindsRow : OpenClaim := { program := "ytmcdnjhdmifpeaadoor", sum := "203b7f9bdc2cbc7d9b78836fc26d06c7b80fb86d68e544c126ad9eec83434c2d", func := "syllogism/syllogismlaw01.SignFinds", spec := "signFinds", unfollowed := true, recurses := true, named := ["syllogism/sign.truth"], plainKeys := false, apart := false, laid := [("syllogism/sign.truth", laid_syllogism_sign_truth)] }
def SignFindsSaid : Prop := signFindsRow.holds Tryd.pinned (OpenSpec.ofChange signFindsSpec)

/-- ITS FALSE NEIGHBOUR: 'it returns false'. Refute it at one input. -/
def signFindsWrong : ChangeSpec := { name := "signFinds", fn := fun _ => fun
  | [d1, d2, d3, d4] => { results := [.lit (.bool false)], args := [d1, d2, d3, d4] }
  | _ => none }
def SignFindsWrongFalsely : Prop := signFindsRow.holds Tryd.pinned (OpenSpec.ofChange signFindsWrong)

/-- 'syllogismlaw01.SignAdds': WHATEVER THE INPUT: true; the input reads as it did. -/
def signAddsSpec : ChangeSpec := { name := "signAdds", fn := fun _ => fun
  | [d1, d2] => { results := [.lit (.bool true)], args := [d1, d2] }
  | _ => none }
def signAddsRow : OpenClaim := { program := "ytmcdnjhdmifpeaadoor", sum := "203b7f9bdc2cbc7d9b78836fc26d06c7b80fb86d68e544c126ad9eec83434c2d", func := "syllogism/syllogismlaw01.SignAdds", spec := "signAdds", unfollowed := true, recurses := true, named := ["syllogism/sign.truth"], plainKeys := false, apart := false, laid := [("syllogism/sign.truth", laid_syllogism_sign_truth)] }
def SignAddsSaid : Prop := signAddsRow.holds Tryd.pinned (OpenSpec.ofChange signAddsSpec)

/-- ITS FALSE NEIGHBOUR: 'it returns false'. Refute it at one input. -/
def signAddsWrong : ChangeSpec := { name := "signAdds", fn := fun _ => fun
  | [d1, d2] => { results := [.lit (.bool false)], args := [d1, d2] }
  | _ => none }
def SignAddsWrongFalsely : Prop := signAddsRow.holds Tryd.pinned (OpenSpec.ofChange signAddsWrong)

/-- 'syllogismlaw01.SignFresh': WHATEVER THE INPUT: true; the input reads as it did. -/
def signFreshSpec : ChangeSpec := { name := "signFresh", fn := fun _ => fun
  | [d1, d2] => { results := [.lit (.bool true)], args := [d1, d2] }
  | _ => none }
def signFreshRow : OpenClaim := { program := "ytmcdnjhdmifpeaadoor", sum := "203b7f9bdc2cbc7d9b78836fc26d06c7b80fb86d68e544c126ad9eec83434c2d", func := "syllogism/syllogismlaw01.SignFresh", spec := "signFresh", unfollowed := true, recurses := true, named := ["syllogism/sign.truth", "internal/strconv.uint64pow10", "math/bits.deBruijn32tab", "math/bits.deBruijn64tab"], plainKeys := false, apart := false, laid := [("math/bits.deBruijn32tab", laid_math_bits_deBruijn32tab), ("math/bits.deBruijn64tab", laid_math_bits_deBruijn64tab), ("internal/strconv.uint64pow10", laid_internal_strconv_uint64pow10), ("syllogism/sign.truth", laid_syllogism_sign_truth)] }
def SignFreshSaid : Prop := signFreshRow.holds Tryd.pinned (OpenSpec.ofChange signFreshSpec)

/-- ITS FALSE NEIGHBOUR: 'it returns false'. Refute it at one input. -/
def signFreshWrong : ChangeSpec := { name := "signFresh", fn := fun _ => fun
  | [d1, d2] => { results := [.lit (.bool false)], args := [d1, d2] }
  | _ => none }
def SignFreshWrongFalsely : Prop := signFreshRow.holds Tryd.pinned (OpenSpec.ofChange signFreshWrong)

/-- 'syllogismlaw01.SignKeeps': WHATEVER THE INPUT: true; the input reads as it did. -/
def signKeepsSpec : ChangeSpec := { name := "signKeeps", fn := fun _ => fun
  | [d1, d2] => { results := [.lit (.bool true)], args := [d1, d2] }
  | _ => none }
def signKeepsRow : OpenClaim := { program := "ytmcdnjhdmifpeaadoor", sum := "203b7f9bdc2cbc7d9b78836fc26d06c7b80fb86d68e544c126ad9eec83434c2d", func := "syllogism/syllogismlaw01.SignKeeps", spec := "signKeeps", unfollowed := true, recurses := true, named := ["syllogism/sign.truth", "internal/strconv.uint64pow10", "math/bits.deBruijn32tab", "math/bits.deBruijn64tab"], plainKeys := false, apart := false, laid := [("math/bits.deBruijn32tab", laid_math_bits_deBruijn32tab), ("math/bits.deBruijn64tab", laid_math_bits_deBruijn64tab), ("internal/strconv.uint64pow10", laid_internal_strconv_uint64pow10), ("syllogism/sign.truth", laid_syllogism_sign_truth)] }
def SignKeepsSaid : Prop := signKeepsRow.holds Tryd.pinned (OpenSpec.ofChange signKeepsSpec)

/-- ITS FALSE NEIGHBOUR: 'it returns false'. Refute it at one input. -/
def signKeepsWrong : ChangeSpec := { name := "signKeeps", fn := fun _ => fun
  | [d1, d2] => { results := [.lit (.bool false)], args := [d1, d2] }
  | _ => none }
def SignKeepsWrongFalsely : Prop := signKeepsRow.holds Tryd.pinned (OpenSpec.ofChange signKeepsWrong)

/- THE SECOND FORM. 'bulk': how many values and letters a reading holds, each counted each time it is reached (what is shared counts as often as it is met; a slice's spare places count too). A statement '..UptoSaid' is the law's where the arguments, and the package variables that the reading takes, are together of bulk at most 1048576: NARROWER than '..Said'. Prove '..Said' where nothing that the law and all that it calls make is longer than what came in: it says more and counts as full. Else prove '..UptoSaid'. A law counts once. -/
mutual
def uptoBulk {H : Type} : DataW H → Nat
  | .lit (.string bytes) => bytes.length + 1
  | .lit _ => 1
  | .nil => 1
  | .ptr d => uptoBulk d + 1
  | .slice elems spare => uptoBulkAll elems + uptoBulkAll spare + 1
  | .agg parts => uptoBulkAll parts + 1
  | .iface _ d => uptoBulk d + 1
  | .map entries => uptoBulkEntries entries + 1
  | .held _ => 1
def uptoBulkAll {H : Type} : List (DataW H) → Nat
  | [] => 0
  | d :: r => uptoBulk d + uptoBulkAll r
def uptoBulkEntries {H : Type} : List (Lit × DataW H) → Nat
  | [] => 0
  | x :: r => uptoBulkEntry x + uptoBulkEntries r
def uptoBulkEntry {H : Type} : Lit × DataW H → Nat
  | (.string bytes, d) => bytes.length + uptoBulk d + 1
  | (_, d) => uptoBulk d + 1
 end
def uptoSmall : (H : Type) → List (DataW H) → Bool := fun _ ds => decide (uptoBulkAll ds ≤ 1048576)
def OpenSpec.upto (s : _root_.Go.ChangeSpec) : _root_.Go.OpenSpec := { _root_.Go.OpenSpec.ofChange s with cond := some uptoSmall }

/-- 'syllogismlaw01.SignChecks', WHERE WHAT IT READS IS OF BULK AT MOST 1048576: true; the input reads as it did. -/
def signChecksUptoRow : OpenClaim := { program := "ytmcdnjhdmifpeaadoor", sum := "203b7f9bdc2cbc7d9b78836fc26d06c7b80fb86d68e544c126ad9eec83434c2d", func := "syllogism/syllogismlaw01.SignChecks", spec := "signChecks", unfollowed := true, recurses := true, named := ["syllogism/sign.truth"], plainKeys := false, apart := false, laid := [("syllogism/sign.truth", laid_syllogism_sign_truth)], narrowed := true }
def SignChecksUptoSaid : Prop := signChecksUptoRow.holds Tryd.pinned (OpenSpec.upto signChecksSpec)

/-- 'syllogismlaw01.SignFinds', WHERE WHAT IT READS IS OF BULK AT MOST 1048576: true; the input reads as it did. -/
def signFindsUptoRow : OpenClaim := { program := "ytmcdnjhdmifpeaadoor", sum := "203b7f9bdc2cbc7d9b78836fc26d06c7b80fb86d68e544c126ad9eec83434c2d", func := "syllogism/syllogismlaw01.SignFinds", spec := "signFinds", unfollowed := true, recurses := true, named := ["syllogism/sign.truth"], plainKeys := false, apart := false, laid := [("syllogism/sign.truth", laid_syllogism_sign_truth)], narrowed := true }
def SignFindsUptoSaid : Prop := signFindsUptoRow.holds Tryd.pinned (OpenSpec.upto signFindsSpec)

/-- 'syllogismlaw01.SignAdds', WHERE WHAT IT READS IS OF BULK AT MOST 1048576: true; the input reads as it did. -/
def signAddsUptoRow : OpenClaim := { program := "ytmcdnjhdmifpeaadoor", sum := "203b7f9bdc2cbc7d9b78836fc26d06c7b80fb86d68e544c126ad9eec83434c2d", func := "syllogism/syllogismlaw01.SignAdds", spec := "signAdds", unfollowed := true, recurses := true, named := ["syllogism/sign.truth"], plainKeys := false, apart := false, laid := [("syllogism/sign.truth", laid_syllogism_sign_truth)], narrowed := true }
def SignAddsUptoSaid : Prop := signAddsUptoRow.holds Tryd.pinned (OpenSpec.upto signAddsSpec)

/-- 'syllogismlaw01.SignFresh', WHERE WHAT IT READS IS OF BULK AT MOST 1048576: true; the input reads as it did. -/
def signFreshUptoRow : OpenClaim := { program := "ytmcdnjhdmifpeaadoor", sum := "203b7f9bdc2cbc7d9b78836fc26d06c7b80fb86d68e544c126ad9eec83434c2d", func := "syllogism/syllogismlaw01.SignFresh", spec := "signFresh", unfollowed := true, recurses := true, named := ["syllogism/sign.truth", "internal/strconv.uint64pow10", "math/bits.deBruijn32tab", "math/bits.deBruijn64tab"], plainKeys := false, apart := false, laid := [("math/bits.deBruijn32tab", laid_math_bits_deBruijn32tab), ("math/bits.deBruijn64tab", laid_math_bits_deBruijn64tab), ("internal/strconv.uint64pow10", laid_internal_strconv_uint64pow10), ("syllogism/sign.truth", laid_syllogism_sign_truth)], narrowed := true }
def SignFreshUptoSaid : Prop := signFreshUptoRow.holds Tryd.pinned (OpenSpec.upto signFreshSpec)

/-- 'syllogismlaw01.SignKeeps', WHERE WHAT IT READS IS OF BULK AT MOST 1048576: true; the input reads as it did. -/
def signKeepsUptoRow : OpenClaim := { program := "ytmcdnjhdmifpeaadoor", sum := "203b7f9bdc2cbc7d9b78836fc26d06c7b80fb86d68e544c126ad9eec83434c2d", func := "syllogism/syllogismlaw01.SignKeeps", spec := "signKeeps", unfollowed := true, recurses := true, named := ["syllogism/sign.truth", "internal/strconv.uint64pow10", "math/bits.deBruijn32tab", "math/bits.deBruijn64tab"], plainKeys := false, apart := false, laid := [("math/bits.deBruijn32tab", laid_math_bits_deBruijn32tab), ("math/bits.deBruijn64tab", laid_math_bits_deBruijn64tab), ("internal/strconv.uint64pow10", laid_internal_strconv_uint64pow10), ("syllogism/sign.truth", laid_syllogism_sign_truth)], narrowed := true }
def SignKeepsUptoSaid : Prop := signKeepsUptoRow.holds Tryd.pinned (OpenSpec.upto signKeepsSpec)

end Rows
end Go.Proofs.YtmcdnjhdmifpeaaDoor
