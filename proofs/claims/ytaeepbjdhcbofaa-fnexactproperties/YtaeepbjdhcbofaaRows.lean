/-
  No cell of these rows narrows 'for every input' (looked for: loops, veiled, ifaces, maps, wideKeys, modest, calm, conditions, laid).
  DERIVED. THE GIVEN ROWS OF THIS SEAT. 4 by the template 'for every input the law returns true; each argument reads behind the call as it read before'; 0 by the template 'total and deterministic' (their statements: YtaeepbjdhcbofaaTotals.lean).
  GIVEN WITH THE SEED: the statements are not yours to turn. If you find one false, say at which input.
  Laid BY PROGRAM, IN A SANDBOX (cutbox-rows.mjs): the forced cells as the released guide's own fill.sh prints them over the translation 55d73c0b8bf44f8d… (all of the seat's roots in one cut). By AI agents, Wed Nov 11 2026. No macro, syntax, notation, axiom, sorry.
-/
import Derived.Test.YtaeepbjdhcbofaaChecked
import GoSem.Claim
import GoSem.ClaimJoined
import GoSem.ClaimMapViews
import Derived.JoinedTies
import Derived.KernelRfl
namespace Go.Proofs.Ytaeepbjdhcbofaa
/- THE CELL 'sum', in the pinned program and in every row, IS THE sha256 OF THE DUMP (.gsa) THAT YtaeepbjdhcbofaaProg.lean LOADS. Nothing in Lean hashes anything: it is a label: what it is worth is what the hold of that sum in a sandbox is worth. -/
noncomputable def Try.pinned : Pinned := { name := "ytaeepbjdhcbofaa", sum := "55d73c0b8bf44f8dcd6c9dd44d9c3cc6ba9d8770723170eb631d1357a12051b9", checked := Try.checked }
namespace Rows
def none {H : Type} : Left H := { results := [], args := [] }

/-- 'laws.FnExactWeightOf': WHATEVER THE INPUT: true; the input reads as it did. -/
def fnExactWeightOfSpec : ChangeSpec := { name := "fnExactWeightOf", fn := fun _ => fun
  | [d] => { results := [.lit (.bool true)], args := [d] }
  | _ => none }
def fnExactWeightOfRow : OpenClaim := { program := "ytaeepbjdhcbofaa", sum := "55d73c0b8bf44f8dcd6c9dd44d9c3cc6ba9d8770723170eb631d1357a12051b9", func := "loop.example/g00137/laws.FnExactWeightOf", spec := "fnExactWeightOf", apart := false }
def FnExactWeightOfSaid : Prop := fnExactWeightOfRow.holds Try.pinned (OpenSpec.ofChange fnExactWeightOfSpec)

/-- ITS FALSE NEIGHBOUR: 'it returns false'. Refute it at one input. -/
def fnExactWeightOfWrong : ChangeSpec := { name := "fnExactWeightOf", fn := fun _ => fun
  | [d] => { results := [.lit (.bool false)], args := [d] }
  | _ => none }
def FnExactWeightOfWrongFalsely : Prop := fnExactWeightOfRow.holds Try.pinned (OpenSpec.ofChange fnExactWeightOfWrong)

/-- 'laws.FnExactProperties': WHATEVER THE INPUT: true; the input reads as it did. -/
def fnExactPropertiesSpec : ChangeSpec := { name := "fnExactProperties", fn := fun _ => fun
  | [] => { results := [.lit (.bool true)], args := [] }
  | _ => none }
def fnExactPropertiesRow : OpenClaim := { program := "ytaeepbjdhcbofaa", sum := "55d73c0b8bf44f8dcd6c9dd44d9c3cc6ba9d8770723170eb631d1357a12051b9", func := "loop.example/g00137/laws.FnExactProperties", spec := "fnExactProperties", apart := false }
def FnExactPropertiesSaid : Prop := fnExactPropertiesRow.holds Try.pinned (OpenSpec.ofChange fnExactPropertiesSpec)

/-- ITS FALSE NEIGHBOUR: 'it returns false'. Refute it at one input. -/
def fnExactPropertiesWrong : ChangeSpec := { name := "fnExactProperties", fn := fun _ => fun
  | [] => { results := [.lit (.bool false)], args := [] }
  | _ => none }
def FnExactPropertiesWrongFalsely : Prop := fnExactPropertiesRow.holds Try.pinned (OpenSpec.ofChange fnExactPropertiesWrong)

/-- 'laws.FnExactFirstValue': WHATEVER THE INPUT: true; the input reads as it did. -/
def fnExactFirstValueSpec : ChangeSpec := { name := "fnExactFirstValue", fn := fun _ => fun
  | [d] => { results := [.lit (.bool true)], args := [d] }
  | _ => none }
def fnExactFirstValueRow : OpenClaim := { program := "ytaeepbjdhcbofaa", sum := "55d73c0b8bf44f8dcd6c9dd44d9c3cc6ba9d8770723170eb631d1357a12051b9", func := "loop.example/g00137/laws.FnExactFirstValue", spec := "fnExactFirstValue", apart := false }
def FnExactFirstValueSaid : Prop := fnExactFirstValueRow.holds Try.pinned (OpenSpec.ofChange fnExactFirstValueSpec)

/-- ITS FALSE NEIGHBOUR: 'it returns false'. Refute it at one input. -/
def fnExactFirstValueWrong : ChangeSpec := { name := "fnExactFirstValue", fn := fun _ => fun
  | [d] => { results := [.lit (.bool false)], args := [d] }
  | _ => none }
def FnExactFirstValueWrongFalsely : Prop := fnExactFirstValueRow.holds Try.pinned (OpenSpec.ofChange fnExactFirstValueWrong)

/-- 'laws.FnExactInherits': WHATEVER THE INPUT: true; the input reads as it did. -/
def fnExactInheritsSpec : ChangeSpec := { name := "fnExactInherits", fn := fun _ => fun
  | [d] => { results := [.lit (.bool true)], args := [d] }
  | _ => none }
def fnExactInheritsRow : OpenClaim := { program := "ytaeepbjdhcbofaa", sum := "55d73c0b8bf44f8dcd6c9dd44d9c3cc6ba9d8770723170eb631d1357a12051b9", func := "loop.example/g00137/laws.FnExactInherits", spec := "fnExactInherits", apart := false }
def FnExactInheritsSaid : Prop := fnExactInheritsRow.holds Try.pinned (OpenSpec.ofChange fnExactInheritsSpec)

/-- ITS FALSE NEIGHBOUR: 'it returns false'. Refute it at one input. -/
def fnExactInheritsWrong : ChangeSpec := { name := "fnExactInherits", fn := fun _ => fun
  | [d] => { results := [.lit (.bool false)], args := [d] }
  | _ => none }
def FnExactInheritsWrongFalsely : Prop := fnExactInheritsRow.holds Try.pinned (OpenSpec.ofChange fnExactInheritsWrong)

/- THE SECOND FORM. 'bulk': how many values and letters a reading holds, each counted each time it is reached (what is shared counts as often as it is met; a slice's spare places count too). A statement '..UptoSaid' is the law's where the arguments, and the package variables that the reading takes, are together of bulk at most 1048576: NARROWER than '..Said'. Prove '..Said' where nothing that the law and all that it calls make is longer than what came in: it says more and counts as full. Else prove '..UptoSaid'. A law counts once. -/
mutual
def uptoBulk {H : Type} : DataW H → Nat
  | .lit (.string bytes) => bytes.length + 1
  | .lit _ => 1
  | .nil => 1
  | .ptr d => uptoBulk d + 1
  | .slice elems spare => uptoBulkAll elems + uptoBulkAll spare + 1
  | .agg parts => uptoBulkAll parts + 1
  | .iface _ d => uptoBulk d + 1
  | .map entries => uptoBulkEntries entries + 1
  | .held _ => 1
def uptoBulkAll {H : Type} : List (DataW H) → Nat
  | [] => 0
  | d :: r => uptoBulk d + uptoBulkAll r
def uptoBulkEntries {H : Type} : List (Lit × DataW H) → Nat
  | [] => 0
  | x :: r => uptoBulkEntry x + uptoBulkEntries r
def uptoBulkEntry {H : Type} : Lit × DataW H → Nat
  | (.string bytes, d) => bytes.length + uptoBulk d + 1
  | (_, d) => uptoBulk d + 1
 end
def uptoSmall : (H : Type) → List (DataW H) → Bool := fun _ ds => decide (uptoBulkAll ds ≤ 1048576)
def OpenSpec.upto (s : _root_.Go.ChangeSpec) : _root_.Go.OpenSpec := { _root_.Go.OpenSpec.ofChange s with cond := some uptoSmall }

/-- 'laws.FnExactWeightOf', WHERE WHAT IT READS IS OF BULK AT MOST 1048576: true; the input reads as it did. -/
def fnExactWeightOfUptoRow : OpenClaim := { program := "ytaeepbjdhcbofaa", sum := "55d73c0b8bf44f8dcd6c9dd44d9c3cc6ba9d8770723170eb631d1357a12051b9", func := "loop.example/g00137/laws.FnExactWeightOf", spec := "fnExactWeightOf", apart := false, narrowed := true }
def FnExactWeightOfUptoSaid : Prop := fnExactWeightOfUptoRow.holds Try.pinned (OpenSpec.upto fnExactWeightOfSpec)

/-- 'laws.FnExactProperties', WHERE WHAT IT READS IS OF BULK AT MOST 1048576: true; the input reads as it did. -/
def fnExactPropertiesUptoRow : OpenClaim := { program := "ytaeepbjdhcbofaa", sum := "55d73c0b8bf44f8dcd6c9dd44d9c3cc6ba9d8770723170eb631d1357a12051b9", func := "loop.example/g00137/laws.FnExactProperties", spec := "fnExactProperties", apart := false, narrowed := true }
def FnExactPropertiesUptoSaid : Prop := fnExactPropertiesUptoRow.holds Try.pinned (OpenSpec.upto fnExactPropertiesSpec)

/-- 'laws.FnExactFirstValue', WHERE WHAT IT READS IS OF BULK AT MOST 1048576: true; the input reads as it did. -/
def fnExactFirstValueUptoRow : OpenClaim := { program := "ytaeepbjdhcbofaa", sum := "55d73c0b8bf44f8dcd6c9dd44d9c3cc6ba9d8770723170eb631d1357a12051b9", func := "loop.example/g00137/laws.FnExactFirstValue", spec := "fnExactFirstValue", apart := false, narrowed := true }
def FnExactFirstValueUptoSaid : Prop := fnExactFirstValueUptoRow.holds Try.pinned (OpenSpec.upto fnExactFirstValueSpec)

/-- 'laws.FnExactInherits', WHERE WHAT IT READS IS OF BULK AT MOST 1048576: true; the input reads as it did. -/
def fnExactInheritsUptoRow : OpenClaim := { program := "ytaeepbjdhcbofaa", sum := "55d73c0b8bf44f8dcd6c9dd44d9c3cc6ba9d8770723170eb631d1357a12051b9", func := "loop.example/g00137/laws.FnExactInherits", spec := "fnExactInherits", apart := false, narrowed := true }
def FnExactInheritsUptoSaid : Prop := fnExactInheritsUptoRow.holds Try.pinned (OpenSpec.upto fnExactInheritsSpec)

end Rows
end Go.Proofs.Ytaeepbjdhcbofaa
