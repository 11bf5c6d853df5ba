/-
  No cell of these rows narrows 'for every input' (looked for: loops, veiled, ifaces, maps, wideKeys, modest, calm, conditions, laid).
  DERIVED. THE GIVEN ROWS OF THIS SEAT. 5 by the template 'for every input the law returns true; each argument reads behind the call as it read before'; 0 by the template 'total and deterministic' (their statements: YtjahjefbinnjjabTotals.lean).
  GIVEN WITH THE SEED: the statements are not yours to turn. If you find one false, say at which input.
  Laid BY PROGRAM, IN A SANDBOX (cutbox-rows.mjs): the forced cells as the released guide's own fill.sh prints them over the translation 074b54d9e73bebb8… (all of the seat's roots in one cut). By AI agents, Wed Nov 11 2026. No macro, syntax, notation, axiom, sorry.
-/
import Derived.Test.YtjahjefbinnjjabChecked
import GoSem.Claim
import GoSem.ClaimJoined
import GoSem.ClaimMapViews
import Derived.JoinedTies
import Derived.KernelRfl
namespace Go.Proofs.Ytjahjefbinnjjab
/- THE CELL 'sum', in the pinned program and in every row, IS THE sha256 OF THE DUMP (.gsa) THAT YtjahjefbinnjjabProg.lean LOADS. Nothing in Lean hashes anything: it is a label: what it is worth is what the hold of that sum in a sandbox is worth. -/
noncomputable def Try.pinned : Pinned := { name := "ytjahjefbinnjjab", sum := "074b54d9e73bebb8a7a05289c91734c378b5b780236b2792effc6580387049e1", checked := Try.checked }
namespace Rows
def none {H : Type} : Left H := { results := [], args := [] }

/-- 'limewashkeep.StoresLoad': WHATEVER THE INPUT: true; the input reads as it did. -/
def storesLoadSpec : ChangeSpec := { name := "storesLoad", fn := fun _ => fun
  | [d1, d2] => { results := [.lit (.bool true)], args := [d1, d2] }
  | _ => none }
def storesLoadRow : OpenClaim := { program := "ytjahjefbinnjjab", sum := "074b54d9e73bebb8a7a05289c91734c378b5b780236b2792effc6580387049e1", func := "limewash/limewashkeep.StoresLoad", spec := "storesLoad", apart := false }
def StoresLoadSaid : Prop := storesLoadRow.holds Try.pinned (OpenSpec.ofChange storesLoadSpec)

/-- ITS FALSE NEIGHBOUR: 'it returns false'. Refute it at one input. -/
def storesLoadWrong : ChangeSpec := { name := "storesLoad", fn := fun _ => fun
  | [d1, d2] => { results := [.lit (.bool false)], args := [d1, d2] }
  | _ => none }
def StoresLoadWrongFalsely : Prop := storesLoadRow.holds Try.pinned (OpenSpec.ofChange storesLoadWrong)

/-- 'limewashkeep.AllocsGrow': WHATEVER THE INPUT: true; the input reads as it did. -/
def allocsGrowSpec : ChangeSpec := { name := "allocsGrow", fn := fun _ => fun
  | [d1, d2] => { results := [.lit (.bool true)], args := [d1, d2] }
  | _ => none }
def allocsGrowRow : OpenClaim := { program := "ytjahjefbinnjjab", sum := "074b54d9e73bebb8a7a05289c91734c378b5b780236b2792effc6580387049e1", func := "limewash/limewashkeep.AllocsGrow", spec := "allocsGrow", apart := false }
def AllocsGrowSaid : Prop := allocsGrowRow.holds Try.pinned (OpenSpec.ofChange allocsGrowSpec)

/-- ITS FALSE NEIGHBOUR: 'it returns false'. Refute it at one input. -/
def allocsGrowWrong : ChangeSpec := { name := "allocsGrow", fn := fun _ => fun
  | [d1, d2] => { results := [.lit (.bool false)], args := [d1, d2] }
  | _ => none }
def AllocsGrowWrongFalsely : Prop := allocsGrowRow.holds Try.pinned (OpenSpec.ofChange allocsGrowWrong)

/-- 'limewashkeep.HeapsBad': WHATEVER THE INPUT: true; the input reads as it did. -/
def heapsBadSpec : ChangeSpec := { name := "heapsBad", fn := fun _ => fun
  | [d1, d2, d3] => { results := [.lit (.bool true)], args := [d1, d2, d3] }
  | _ => none }
def heapsBadRow : OpenClaim := { program := "ytjahjefbinnjjab", sum := "074b54d9e73bebb8a7a05289c91734c378b5b780236b2792effc6580387049e1", func := "limewash/limewashkeep.HeapsBad", spec := "heapsBad", unfollowed := true, recurses := true, apart := false }
def HeapsBadSaid : Prop := heapsBadRow.holds Try.pinned (OpenSpec.ofChange heapsBadSpec)

/-- ITS FALSE NEIGHBOUR: 'it returns false'. Refute it at one input. -/
def heapsBadWrong : ChangeSpec := { name := "heapsBad", fn := fun _ => fun
  | [d1, d2, d3] => { results := [.lit (.bool false)], args := [d1, d2, d3] }
  | _ => none }
def HeapsBadWrongFalsely : Prop := heapsBadRow.holds Try.pinned (OpenSpec.ofChange heapsBadWrong)

/-- 'limewashkeep.ReachesAll': WHATEVER THE INPUT: true; the input reads as it did. -/
def reachesAllSpec : ChangeSpec := { name := "reachesAll", fn := fun _ => fun
  | [d1, d2] => { results := [.lit (.bool true)], args := [d1, d2] }
  | _ => none }
def reachesAllRow : OpenClaim := { program := "ytjahjefbinnjjab", sum := "074b54d9e73bebb8a7a05289c91734c378b5b780236b2792effc6580387049e1", func := "limewash/limewashkeep.ReachesAll", spec := "reachesAll", unfollowed := true, recurses := true, apart := false }
def ReachesAllSaid : Prop := reachesAllRow.holds Try.pinned (OpenSpec.ofChange reachesAllSpec)

/-- ITS FALSE NEIGHBOUR: 'it returns false'. Refute it at one input. -/
def reachesAllWrong : ChangeSpec := { name := "reachesAll", fn := fun _ => fun
  | [d1, d2] => { results := [.lit (.bool false)], args := [d1, d2] }
  | _ => none }
def ReachesAllWrongFalsely : Prop := reachesAllRow.holds Try.pinned (OpenSpec.ofChange reachesAllWrong)

/-- 'limewashkeep.CompactsSame': WHATEVER THE INPUT: true; the input reads as it did. -/
def compactsSameSpec : ChangeSpec := { name := "compactsSame", fn := fun _ => fun
  | [d1, d2] => { results := [.lit (.bool true)], args := [d1, d2] }
  | _ => none }
def compactsSameRow : OpenClaim := { program := "ytjahjefbinnjjab", sum := "074b54d9e73bebb8a7a05289c91734c378b5b780236b2792effc6580387049e1", func := "limewash/limewashkeep.CompactsSame", spec := "compactsSame", unfollowed := true, recurses := true, apart := false }
def CompactsSameSaid : Prop := compactsSameRow.holds Try.pinned (OpenSpec.ofChange compactsSameSpec)

/-- ITS FALSE NEIGHBOUR: 'it returns false'. Refute it at one input. -/
def compactsSameWrong : ChangeSpec := { name := "compactsSame", fn := fun _ => fun
  | [d1, d2] => { results := [.lit (.bool false)], args := [d1, d2] }
  | _ => none }
def CompactsSameWrongFalsely : Prop := compactsSameRow.holds Try.pinned (OpenSpec.ofChange compactsSameWrong)

/- THE SECOND FORM. 'bulk': how many values and letters a reading holds, each counted each time it is reached (what is shared counts as often as it is met; a slice's spare places count too). A statement '..UptoSaid' is the law's where the arguments, and the package variables that the reading takes, are together of bulk at most 1048576: NARROWER than '..Said'. Prove '..Said' where nothing that the law and all that it calls make is longer than what came in: it says more and counts as full. Else prove '..UptoSaid'. A law counts once. -/
mutual
def uptoBulk {H : Type} : DataW H → Nat
  | .lit (.string bytes) => bytes.length + 1
  | .lit _ => 1
  | .nil => 1
  | .ptr d => uptoBulk d + 1
  | .slice elems spare => uptoBulkAll elems + uptoBulkAll spare + 1
  | .agg parts => uptoBulkAll parts + 1
  | .iface _ d => uptoBulk d + 1
  | .map entries => uptoBulkEntries entries + 1
  | .held _ => 1
def uptoBulkAll {H : Type} : List (DataW H) → Nat
  | [] => 0
  | d :: r => uptoBulk d + uptoBulkAll r
def uptoBulkEntries {H : Type} : List (Lit × DataW H) → Nat
  | [] => 0
  | x :: r => uptoBulkEntry x + uptoBulkEntries r
def uptoBulkEntry {H : Type} : Lit × DataW H → Nat
  | (.string bytes, d) => bytes.length + uptoBulk d + 1
  | (_, d) => uptoBulk d + 1
 end
def uptoSmall : (H : Type) → List (DataW H) → Bool := fun _ ds => decide (uptoBulkAll ds ≤ 1048576)
def OpenSpec.upto (s : _root_.Go.ChangeSpec) : _root_.Go.OpenSpec := { _root_.Go.OpenSpec.ofChange s with cond := some uptoSmall }

/-- 'limewashkeep.StoresLoad', WHERE WHAT IT READS IS OF BULK AT MOST 1048576: true; the input reads as it did. -/
def storesLoadUptoRow : OpenClaim := { program := "ytjahjefbinnjjab", sum := "074b54d9e73bebb8a7a05289c91734c378b5b780236b2792effc6580387049e1", func := "limewash/limewashkeep.StoresLoad", spec := "storesLoad", apart := false, narrowed := true }
def StoresLoadUptoSaid : Prop := storesLoadUptoRow.holds Try.pinned (OpenSpec.upto storesLoadSpec)

/-- 'limewashkeep.AllocsGrow', WHERE WHAT IT READS IS OF BULK AT MOST 1048576: true; the input reads as it did. -/
def allocsGrowUptoRow : OpenClaim := { program := "ytjahjefbinnjjab", sum := "074b54d9e73bebb8a7a05289c91734c378b5b780236b2792effc6580387049e1", func := "limewash/limewashkeep.AllocsGrow", spec := "allocsGrow", apart := false, narrowed := true }
def AllocsGrowUptoSaid : Prop := allocsGrowUptoRow.holds Try.pinned (OpenSpec.upto allocsGrowSpec)

/-- 'limewashkeep.HeapsBad', WHERE WHAT IT READS IS OF BULK AT MOST 1048576: true; the input reads as it did. -/
def heapsBadUptoRow : OpenClaim := { program := "ytjahjefbinnjjab", sum := "074b54d9e73bebb8a7a05289c91734c378b5b780236b2792effc6580387049e1", func := "limewash/limewashkeep.HeapsBad", spec := "heapsBad", unfollowed := true, recurses := true, apart := false, narrowed := true }
def HeapsBadUptoSaid : Prop := heapsBadUptoRow.holds Try.pinned (OpenSpec.upto heapsBadSpec)

/-- 'limewashkeep.ReachesAll', WHERE WHAT IT READS IS OF BULK AT MOST 1048576: true; the input reads as it did. -/
def reachesAllUptoRow : OpenClaim := { program := "ytjahjefbinnjjab", sum := "074b54d9e73bebb8a7a05289c91734c378b5b780236b2792effc6580387049e1", func := "limewash/limewashkeep.ReachesAll", spec := "reachesAll", unfollowed := true, recurses := true, apart := false, narrowed := true }
def ReachesAllUptoSaid : Prop := reachesAllUptoRow.holds Try.pinned (OpenSpec.upto reachesAllSpec)

/-- 'limewashkeep.CompactsSame', WHERE WHAT IT READS IS OF BULK AT MOST 1048576: true; the input reads as it did. -/
def compactsSameUptoRow : OpenClaim := { program := "ytjahjefbinnjjab", sum := "074b54d9e73bebb8a7a05289c91734c378b5b780236b2792effc6580387049e1", func := "limewash/limewashkeep.CompactsSame", spec := "compactsSame", unfollowed := true, recurses := true, apart := false, narrowed := true }
def CompactsSameUptoSaid : Prop := compactsSameUptoRow.holds Try.pinned (OpenSpec.upto compactsSameSpec)

end Rows
end Go.Proofs.Ytjahjefbinnjjab
