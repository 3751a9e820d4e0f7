/-
  No cell of these rows narrows 'for every input' (looked for: loops, veiled, ifaces, maps, wideKeys, modest, calm, conditions, laid).
  DERIVED. THE GIVEN ROWS OF THIS SEAT. 4 by the template 'for every input the law returns true; each argument reads behind the call as it read before'; 0 by the template 'total and deterministic' (their statements: YtidodjbmlbjchaaGreatTotals.lean).
  GIVEN WITH THE SEED: the statements are not yours to turn. If you find one false, say at which input.
  Laid BY PROGRAM, IN A SANDBOX (cutbox-rows.mjs): the forced cells as the released guide's own fill.sh prints them over the translation 2716adac9e45080c… (all of the seat's roots in one cut). By AI agents, Wed Nov 11 2026. No macro, syntax, notation, axiom, sorry.
-/
import Derived.Test.YtidodjbmlbjchaaGreatChecked
import GoSem.Claim
import GoSem.ClaimJoined
import GoSem.ClaimMapViews
import Derived.JoinedTies
import Derived.KernelRfl
namespace Go.Proofs.YtidodjbmlbjchaaGreat
/- THE CELL 'sum', in the pinned program and in every row, IS THE sha256 OF THE DUMP (.gsa) THAT YtidodjbmlbjchaaGreatProg.lean LOADS. Nothing in Lean hashes anything: it is a label: what it is worth is what the hold of that sum in a sandbox is worth. -/
noncomputable def Tryz.pinned : Pinned := { name := "ytidodjbmlbjchaagreat", sum := "2716adac9e45080c4c12d350cd9f26e40ea6a3cf2ee1f311053537fa151c61d0", checked := Tryz.checked }
namespace Rows
def none {H : Type} : Left H := { results := [], args := [] }

/-- 'halyardlaw.StateTells': WHATEVER THE INPUT: true; the input reads as it did. -/
def stateTellsSpec : ChangeSpec := { name := "stateTells", fn := fun _ => fun
  | [d1, d2] => { results := [.lit (.bool true)], args := [d1, d2] }
  | _ => none }
def stateTellsRow : OpenClaim := { program := "ytidodjbmlbjchaagreat", sum := "2716adac9e45080c4c12d350cd9f26e40ea6a3cf2ee1f311053537fa151c61d0", func := "halyard/halyardlaw.StateTells", spec := "stateTells", inPlace := ["internal/bytealg.IndexByteString", "slices.overlaps[halyard/api.Thing]", "slices.overlaps[int]"], unfollowed := true, recurses := true, apart := false }
def StateTellsSaid : Prop := stateTellsRow.holds Tryz.pinned (OpenSpec.ofChange stateTellsSpec)

/-- ITS FALSE NEIGHBOUR: 'it returns false'. Refute it at one input. -/
def stateTellsWrong : ChangeSpec := { name := "stateTells", fn := fun _ => fun
  | [d1, d2] => { results := [.lit (.bool false)], args := [d1, d2] }
  | _ => none }
def StateTellsWrongFalsely : Prop := stateTellsRow.holds Tryz.pinned (OpenSpec.ofChange stateTellsWrong)

/-- 'halyardlaw.HistoryTells': WHATEVER THE INPUT: true; the input reads as it did. -/
def historyTellsSpec : ChangeSpec := { name := "historyTells", fn := fun _ => fun
  | [d1, d2, d3, d4, d5] => { results := [.lit (.bool true)], args := [d1, d2, d3, d4, d5] }
  | _ => none }
def historyTellsRow : OpenClaim := { program := "ytidodjbmlbjchaagreat", sum := "2716adac9e45080c4c12d350cd9f26e40ea6a3cf2ee1f311053537fa151c61d0", func := "halyard/halyardlaw.HistoryTells", spec := "historyTells", inPlace := ["internal/bytealg.IndexByteString", "slices.overlaps[halyard/api.Thing]", "slices.overlaps[int]"], unfollowed := true, recurses := true, apart := false }
def HistoryTellsSaid : Prop := historyTellsRow.holds Tryz.pinned (OpenSpec.ofChange historyTellsSpec)

/-- ITS FALSE NEIGHBOUR: 'it returns false'. Refute it at one input. -/
def historyTellsWrong : ChangeSpec := { name := "historyTells", fn := fun _ => fun
  | [d1, d2, d3, d4, d5] => { results := [.lit (.bool false)], args := [d1, d2, d3, d4, d5] }
  | _ => none }
def HistoryTellsWrongFalsely : Prop := historyTellsRow.holds Tryz.pinned (OpenSpec.ofChange historyTellsWrong)

/-- 'halyardlaw.HistoryStays': WHATEVER THE INPUT: true; the input reads as it did. -/
def historyStaysSpec : ChangeSpec := { name := "historyStays", fn := fun _ => fun
  | [d1, d2, d3, d4] => { results := [.lit (.bool true)], args := [d1, d2, d3, d4] }
  | _ => none }
def historyStaysRow : OpenClaim := { program := "ytidodjbmlbjchaagreat", sum := "2716adac9e45080c4c12d350cd9f26e40ea6a3cf2ee1f311053537fa151c61d0", func := "halyard/halyardlaw.HistoryStays", spec := "historyStays", inPlace := ["internal/bytealg.IndexByteString", "slices.overlaps[halyard/api.Thing]", "slices.overlaps[int]"], unfollowed := true, recurses := true, apart := false }
def HistoryStaysSaid : Prop := historyStaysRow.holds Tryz.pinned (OpenSpec.ofChange historyStaysSpec)

/-- ITS FALSE NEIGHBOUR: 'it returns false'. Refute it at one input. -/
def historyStaysWrong : ChangeSpec := { name := "historyStays", fn := fun _ => fun
  | [d1, d2, d3, d4] => { results := [.lit (.bool false)], args := [d1, d2, d3, d4] }
  | _ => none }
def HistoryStaysWrongFalsely : Prop := historyStaysRow.holds Tryz.pinned (OpenSpec.ofChange historyStaysWrong)

/-- 'halyardlaw.HistoryBack': WHATEVER THE INPUT: true; the input reads as it did. -/
def historyBackSpec : ChangeSpec := { name := "historyBack", fn := fun _ => fun
  | [d1, d2] => { results := [.lit (.bool true)], args := [d1, d2] }
  | _ => none }
def historyBackRow : OpenClaim := { program := "ytidodjbmlbjchaagreat", sum := "2716adac9e45080c4c12d350cd9f26e40ea6a3cf2ee1f311053537fa151c61d0", func := "halyard/halyardlaw.HistoryBack", spec := "historyBack", inPlace := ["internal/bytealg.IndexByteString", "slices.overlaps[halyard/api.Thing]", "slices.overlaps[int]"], unfollowed := true, recurses := true, apart := false }
def HistoryBackSaid : Prop := historyBackRow.holds Tryz.pinned (OpenSpec.ofChange historyBackSpec)

/-- ITS FALSE NEIGHBOUR: 'it returns false'. Refute it at one input. -/
def historyBackWrong : ChangeSpec := { name := "historyBack", fn := fun _ => fun
  | [d1, d2] => { results := [.lit (.bool false)], args := [d1, d2] }
  | _ => none }
def HistoryBackWrongFalsely : Prop := historyBackRow.holds Tryz.pinned (OpenSpec.ofChange historyBackWrong)

/- THE SECOND FORM. 'bulk': how many values and letters a reading holds, each counted each time it is reached (what is shared counts as often as it is met; a slice's spare places count too). A statement '..UptoSaid' is the law's where the arguments, and the package variables that the reading takes, are together of bulk at most 1048576: NARROWER than '..Said'. Prove '..Said' where nothing that the law and all that it calls make is longer than what came in: it says more and counts as full. Else prove '..UptoSaid'. A law counts once. -/
mutual
def uptoBulk {H : Type} : DataW H → Nat
  | .lit (.string bytes) => bytes.length + 1
  | .lit _ => 1
  | .nil => 1
  | .ptr d => uptoBulk d + 1
  | .slice elems spare => uptoBulkAll elems + uptoBulkAll spare + 1
  | .agg parts => uptoBulkAll parts + 1
  | .iface _ d => uptoBulk d + 1
  | .map entries => uptoBulkEntries entries + 1
  | .held _ => 1
def uptoBulkAll {H : Type} : List (DataW H) → Nat
  | [] => 0
  | d :: r => uptoBulk d + uptoBulkAll r
def uptoBulkEntries {H : Type} : List (Lit × DataW H) → Nat
  | [] => 0
  | x :: r => uptoBulkEntry x + uptoBulkEntries r
def uptoBulkEntry {H : Type} : Lit × DataW H → Nat
  | (.string bytes, d) => bytes.length + uptoBulk d + 1
  | (_, d) => uptoBulk d + 1
 end
def uptoSmall : (H : Type) → List (DataW H) → Bool := fun _ ds => decide (uptoBulkAll ds ≤ 1048576)
def OpenSpec.upto (s : _root_.Go.ChangeSpec) : _root_.Go.OpenSpec := { _root_.Go.OpenSpec.ofChange s with cond := some uptoSmall }

/-- 'halyardlaw.StateTells', WHERE WHAT IT READS IS OF BULK AT MOST 1048576: true; the input reads as it did. -/
def stateTellsUptoRow : OpenClaim := { program := "ytidodjbmlbjchaagreat", sum := "2716adac9e45080c4c12d350cd9f26e40ea6a3cf2ee1f311053537fa151c61d0", func := "halyard/halyardlaw.StateTells", spec := "stateTells", inPlace := ["internal/bytealg.IndexByteString", "slices.overlaps[halyard/api.Thing]", "slices.overlaps[int]"], unfollowed := true, recurses := true, apart := false, narrowed := true }
def StateTellsUptoSaid : Prop := stateTellsUptoRow.holds Tryz.pinned (OpenSpec.upto stateTellsSpec)

/-- 'halyardlaw.HistoryTells', WHERE WHAT IT READS IS OF BULK AT MOST 1048576: true; the input reads as it did. -/
def historyTellsUptoRow : OpenClaim := { program := "ytidodjbmlbjchaagreat", sum := "2716adac9e45080c4c12d350cd9f26e40ea6a3cf2ee1f311053537fa151c61d0", func := "halyard/halyardlaw.HistoryTells", spec := "historyTells", inPlace := ["internal/bytealg.IndexByteString", "slices.overlaps[halyard/api.Thing]", "slices.overlaps[int]"], unfollowed := true, recurses := true, apart := false, narrowed := true }
def HistoryTellsUptoSaid : Prop := historyTellsUptoRow.holds Tryz.pinned (OpenSpec.upto historyTellsSpec)

/-- 'halyardlaw.HistoryStays', WHERE WHAT IT READS IS OF BULK AT MOST 1048576: true; the input reads as it did. -/
def historyStaysUptoRow : OpenClaim := { program := "ytidodjbmlbjchaagreat", sum := "2716adac9e45080c4c12d350cd9f26e40ea6a3cf2ee1f311053537fa151c61d0", func := "halyard/halyardlaw.HistoryStays", spec := "historyStays", inPlace := ["internal/bytealg.IndexByteString", "slices.overlaps[halyard/api.Thing]", "slices.overlaps[int]"], unfollowed := true, recurses := true, apart := false, narrowed := true }
def HistoryStaysUptoSaid : Prop := historyStaysUptoRow.holds Tryz.pinned (OpenSpec.upto historyStaysSpec)

/-- 'halyardlaw.HistoryBack', WHERE WHAT IT READS IS OF BULK AT MOST 1048576: true; the input reads as it did. -/
def historyBackUptoRow : OpenClaim := { program := "ytidodjbmlbjchaagreat", sum := "2716adac9e45080c4c12d350cd9f26e40ea6a3cf2ee1f311053537fa151c61d0", func := "halyard/halyardlaw.HistoryBack", spec := "historyBack", inPlace := ["internal/bytealg.IndexByteString", "slices.overlaps[halyard/api.Thing]", "slices.overlaps[int]"], unfollowed := true, recurses := true, apart := false, narrowed := true }
def HistoryBackUptoSaid : Prop := historyBackUptoRow.holds Tryz.pinned (OpenSpec.upto historyBackSpec)

end Rows
end Go.Proofs.YtidodjbmlbjchaaGreat
