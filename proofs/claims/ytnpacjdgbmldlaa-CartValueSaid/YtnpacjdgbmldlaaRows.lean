/-
  No cell of these rows narrows 'for every input' (looked for: loops, veiled, ifaces, maps, wideKeys, modest, calm, conditions, laid).
  DERIVED. THE GIVEN ROWS OF THIS SEAT. 14 by the template 'for every input the law returns true; each argument reads behind the call as it read before'; 0 by the template 'total and deterministic' (their statements: YtnpacjdgbmldlaaTotals.lean).
  GIVEN WITH THE SEED: the statements are not yours to turn. If you find one false, say at which input.
  Laid BY PROGRAM, IN A SANDBOX (cutbox-rows.mjs): the forced cells as the released guide's own fill.sh prints them over the translation 9beb1b3ede060de5… (all of the seat's roots in one cut). By AI agents, Wed Nov 11 2026. No macro, syntax, notation, axiom, sorry.
-/
import Derived.Test.YtnpacjdgbmldlaaChecked
import GoSem.Claim
import GoSem.ClaimJoined
import GoSem.ClaimMapViews
import Derived.JoinedTies
import Derived.KernelRfl
namespace Go.Proofs.Ytnpacjdgbmldlaa
/- THE CELL 'sum', in the pinned program and in every row, IS THE sha256 OF THE DUMP (.gsa) THAT YtnpacjdgbmldlaaProg.lean LOADS. Nothing in Lean hashes anything: it is a label: what it is worth is what the hold of that sum in a sandbox is worth. -/
noncomputable def Try.pinned : Pinned := { name := "ytnpacjdgbmldlaa", sum := "9beb1b3ede060de56b62fe60fd03efae5b491e112b3ac7910d9a62f8dbb7e75a", checked := Try.checked }
namespace Rows
def none {H : Type} : Left H := { results := [], args := [] }

/-- 'maundlaw04.DotsTell': WHATEVER THE INPUT: true; the input reads as it did. -/
def dotsTellSpec : ChangeSpec := { name := "dotsTell", fn := fun _ => fun
  | [d1, d2, d3, d4] => { results := [.lit (.bool true)], args := [d1, d2, d3, d4] }
  | _ => none }
def dotsTellRow : OpenClaim := { program := "ytnpacjdgbmldlaa", sum := "9beb1b3ede060de56b62fe60fd03efae5b491e112b3ac7910d9a62f8dbb7e75a", func := "maund/maundlaw04.DotsTell", spec := "dotsTell", unfollowed := true, recurses := true, plainKeys := false, apart := false }
def DotsTellSaid : Prop := dotsTellRow.holds Try.pinned (OpenSpec.ofChange dotsTellSpec)

/-- ITS FALSE NEIGHBOUR: 'it returns false'. Refute it at one input. -/
def dotsTellWrong : ChangeSpec := { name := "dotsTell", fn := fun _ => fun
  | [d1, d2, d3, d4] => { results := [.lit (.bool false)], args := [d1, d2, d3, d4] }
  | _ => none }
def DotsTellWrongFalsely : Prop := dotsTellRow.holds Try.pinned (OpenSpec.ofChange dotsTellWrong)

/-- 'maundlaw04.DotsMany': WHATEVER THE INPUT: true; the input reads as it did. -/
def dotsManySpec : ChangeSpec := { name := "dotsMany", fn := fun _ => fun
  | [d1, d2] => { results := [.lit (.bool true)], args := [d1, d2] }
  | _ => none }
def dotsManyRow : OpenClaim := { program := "ytnpacjdgbmldlaa", sum := "9beb1b3ede060de56b62fe60fd03efae5b491e112b3ac7910d9a62f8dbb7e75a", func := "maund/maundlaw04.DotsMany", spec := "dotsMany", unfollowed := true, recurses := true, plainKeys := false, apart := false }
def DotsManySaid : Prop := dotsManyRow.holds Try.pinned (OpenSpec.ofChange dotsManySpec)

/-- ITS FALSE NEIGHBOUR: 'it returns false'. Refute it at one input. -/
def dotsManyWrong : ChangeSpec := { name := "dotsMany", fn := fun _ => fun
  | [d1, d2] => { results := [.lit (.bool false)], args := [d1, d2] }
  | _ => none }
def DotsManyWrongFalsely : Prop := dotsManyRow.holds Try.pinned (OpenSpec.ofChange dotsManyWrong)

/-- 'maundlaw04.DotsSets': WHATEVER THE INPUT: true; the input reads as it did. -/
def dotsSetsSpec : ChangeSpec := { name := "dotsSets", fn := fun _ => fun
  | [d1, d2, d3] => { results := [.lit (.bool true)], args := [d1, d2, d3] }
  | _ => none }
def dotsSetsRow : OpenClaim := { program := "ytnpacjdgbmldlaa", sum := "9beb1b3ede060de56b62fe60fd03efae5b491e112b3ac7910d9a62f8dbb7e75a", func := "maund/maundlaw04.DotsSets", spec := "dotsSets", unfollowed := true, recurses := true, plainKeys := false, apart := false }
def DotsSetsSaid : Prop := dotsSetsRow.holds Try.pinned (OpenSpec.ofChange dotsSetsSpec)

/-- ITS FALSE NEIGHBOUR: 'it returns false'. Refute it at one input. -/
def dotsSetsWrong : ChangeSpec := { name := "dotsSets", fn := fun _ => fun
  | [d1, d2, d3] => { results := [.lit (.bool false)], args := [d1, d2, d3] }
  | _ => none }
def DotsSetsWrongFalsely : Prop := dotsSetsRow.holds Try.pinned (OpenSpec.ofChange dotsSetsWrong)

/-- 'maundlaw04.DotsWhole': WHATEVER THE INPUT: true; the input reads as it did. -/
def dotsWholeSpec : ChangeSpec := { name := "dotsWhole", fn := fun _ => fun
  | [d1, d2] => { results := [.lit (.bool true)], args := [d1, d2] }
  | _ => none }
def dotsWholeRow : OpenClaim := { program := "ytnpacjdgbmldlaa", sum := "9beb1b3ede060de56b62fe60fd03efae5b491e112b3ac7910d9a62f8dbb7e75a", func := "maund/maundlaw04.DotsWhole", spec := "dotsWhole", unfollowed := true, recurses := true, plainKeys := false, apart := false }
def DotsWholeSaid : Prop := dotsWholeRow.holds Try.pinned (OpenSpec.ofChange dotsWholeSpec)

/-- ITS FALSE NEIGHBOUR: 'it returns false'. Refute it at one input. -/
def dotsWholeWrong : ChangeSpec := { name := "dotsWhole", fn := fun _ => fun
  | [d1, d2] => { results := [.lit (.bool false)], args := [d1, d2] }
  | _ => none }
def DotsWholeWrongFalsely : Prop := dotsWholeRow.holds Try.pinned (OpenSpec.ofChange dotsWholeWrong)

/-- 'maundlaw06.CartMany': WHATEVER THE INPUT: true; the input reads as it did. -/
def cartManySpec : ChangeSpec := { name := "cartMany", fn := fun _ => fun
  | [d] => { results := [.lit (.bool true)], args := [d] }
  | _ => none }
def cartManyRow : OpenClaim := { program := "ytnpacjdgbmldlaa", sum := "9beb1b3ede060de56b62fe60fd03efae5b491e112b3ac7910d9a62f8dbb7e75a", func := "maund/maundlaw06.CartMany", spec := "cartMany", inPlace := ["internal/reflectlite.ValueOf", "internal/reflectlite.Swapper", "(internal/reflectlite.Value).Len"], unfollowed := true, recurses := true, plainKeys := false, apart := false }
def CartManySaid : Prop := cartManyRow.holds Try.pinned (OpenSpec.ofChange cartManySpec)

/-- ITS FALSE NEIGHBOUR: 'it returns false'. Refute it at one input. -/
def cartManyWrong : ChangeSpec := { name := "cartMany", fn := fun _ => fun
  | [d] => { results := [.lit (.bool false)], args := [d] }
  | _ => none }
def CartManyWrongFalsely : Prop := cartManyRow.holds Try.pinned (OpenSpec.ofChange cartManyWrong)

/-- 'maundlaw06.CartDots': WHATEVER THE INPUT: true; the input reads as it did. -/
def cartDotsSpec : ChangeSpec := { name := "cartDots", fn := fun _ => fun
  | [d1, d2] => { results := [.lit (.bool true)], args := [d1, d2] }
  | _ => none }
def cartDotsRow : OpenClaim := { program := "ytnpacjdgbmldlaa", sum := "9beb1b3ede060de56b62fe60fd03efae5b491e112b3ac7910d9a62f8dbb7e75a", func := "maund/maundlaw06.CartDots", spec := "cartDots", inPlace := ["internal/reflectlite.ValueOf", "internal/reflectlite.Swapper", "(internal/reflectlite.Value).Len"], unfollowed := true, recurses := true, plainKeys := false, apart := false }
def CartDotsSaid : Prop := cartDotsRow.holds Try.pinned (OpenSpec.ofChange cartDotsSpec)

/-- ITS FALSE NEIGHBOUR: 'it returns false'. Refute it at one input. -/
def cartDotsWrong : ChangeSpec := { name := "cartDots", fn := fun _ => fun
  | [d1, d2] => { results := [.lit (.bool false)], args := [d1, d2] }
  | _ => none }
def CartDotsWrongFalsely : Prop := cartDotsRow.holds Try.pinned (OpenSpec.ofChange cartDotsWrong)

/-- 'maundlaw06.CartValue': WHATEVER THE INPUT: true; the input reads as it did. -/
def cartValueSpec : ChangeSpec := { name := "cartValue", fn := fun _ => fun
  | [d1, d2] => { results := [.lit (.bool true)], args := [d1, d2] }
  | _ => none }
def cartValueRow : OpenClaim := { program := "ytnpacjdgbmldlaa", sum := "9beb1b3ede060de56b62fe60fd03efae5b491e112b3ac7910d9a62f8dbb7e75a", func := "maund/maundlaw06.CartValue", spec := "cartValue", inPlace := ["internal/reflectlite.ValueOf", "internal/reflectlite.Swapper", "(internal/reflectlite.Value).Len"], unfollowed := true, recurses := true, plainKeys := false, apart := false }
def CartValueSaid : Prop := cartValueRow.holds Try.pinned (OpenSpec.ofChange cartValueSpec)

/-- ITS FALSE NEIGHBOUR: 'it returns false'. Refute it at one input. -/
def cartValueWrong : ChangeSpec := { name := "cartValue", fn := fun _ => fun
  | [d1, d2] => { results := [.lit (.bool false)], args := [d1, d2] }
  | _ => none }
def CartValueWrongFalsely : Prop := cartValueRow.holds Try.pinned (OpenSpec.ofChange cartValueWrong)

/-- 'maundlaw06.CartOrders': WHATEVER THE INPUT: true; the input reads as it did. -/
def cartOrdersSpec : ChangeSpec := { name := "cartOrders", fn := fun _ => fun
  | [d1, d2] => { results := [.lit (.bool true)], args := [d1, d2] }
  | _ => none }
def cartOrdersRow : OpenClaim := { program := "ytnpacjdgbmldlaa", sum := "9beb1b3ede060de56b62fe60fd03efae5b491e112b3ac7910d9a62f8dbb7e75a", func := "maund/maundlaw06.CartOrders", spec := "cartOrders", inPlace := ["internal/reflectlite.ValueOf", "internal/reflectlite.Swapper", "(internal/reflectlite.Value).Len"], unfollowed := true, recurses := true, plainKeys := false, apart := false }
def CartOrdersSaid : Prop := cartOrdersRow.holds Try.pinned (OpenSpec.ofChange cartOrdersSpec)

/-- ITS FALSE NEIGHBOUR: 'it returns false'. Refute it at one input. -/
def cartOrdersWrong : ChangeSpec := { name := "cartOrders", fn := fun _ => fun
  | [d1, d2] => { results := [.lit (.bool false)], args := [d1, d2] }
  | _ => none }
def CartOrdersWrongFalsely : Prop := cartOrdersRow.holds Try.pinned (OpenSpec.ofChange cartOrdersWrong)

/-- 'maundlaw07.EditSays': WHATEVER THE INPUT: true; the input reads as it did. -/
def editSaysSpec : ChangeSpec := { name := "editSays", fn := fun _ => fun
  | [d1, d2, d3, d4] => { results := [.lit (.bool true)], args := [d1, d2, d3, d4] }
  | _ => none }
def editSaysRow : OpenClaim := { program := "ytnpacjdgbmldlaa", sum := "9beb1b3ede060de56b62fe60fd03efae5b491e112b3ac7910d9a62f8dbb7e75a", func := "maund/maundlaw07.EditSays", spec := "editSays", inPlace := ["internal/reflectlite.ValueOf", "internal/reflectlite.Swapper", "(internal/reflectlite.Value).Len"], unfollowed := true, recurses := true, plainKeys := false, apart := false }
def EditSaysSaid : Prop := editSaysRow.holds Try.pinned (OpenSpec.ofChange editSaysSpec)

/-- ITS FALSE NEIGHBOUR: 'it returns false'. Refute it at one input. -/
def editSaysWrong : ChangeSpec := { name := "editSays", fn := fun _ => fun
  | [d1, d2, d3, d4] => { results := [.lit (.bool false)], args := [d1, d2, d3, d4] }
  | _ => none }
def EditSaysWrongFalsely : Prop := editSaysRow.holds Try.pinned (OpenSpec.ofChange editSaysWrong)

/-- 'maundlaw07.EditDots': WHATEVER THE INPUT: true; the input reads as it did. -/
def editDotsSpec : ChangeSpec := { name := "editDots", fn := fun _ => fun
  | [d1, d2, d3] => { results := [.lit (.bool true)], args := [d1, d2, d3] }
  | _ => none }
def editDotsRow : OpenClaim := { program := "ytnpacjdgbmldlaa", sum := "9beb1b3ede060de56b62fe60fd03efae5b491e112b3ac7910d9a62f8dbb7e75a", func := "maund/maundlaw07.EditDots", spec := "editDots", inPlace := ["internal/reflectlite.ValueOf", "internal/reflectlite.Swapper", "(internal/reflectlite.Value).Len"], unfollowed := true, recurses := true, plainKeys := false, apart := false }
def EditDotsSaid : Prop := editDotsRow.holds Try.pinned (OpenSpec.ofChange editDotsSpec)

/-- ITS FALSE NEIGHBOUR: 'it returns false'. Refute it at one input. -/
def editDotsWrong : ChangeSpec := { name := "editDots", fn := fun _ => fun
  | [d1, d2, d3] => { results := [.lit (.bool false)], args := [d1, d2, d3] }
  | _ => none }
def EditDotsWrongFalsely : Prop := editDotsRow.holds Try.pinned (OpenSpec.ofChange editDotsWrong)

/-- 'maundlaw08.JoinMany': WHATEVER THE INPUT: true; the input reads as it did. -/
def joinManySpec : ChangeSpec := { name := "joinMany", fn := fun _ => fun
  | [d1, d2] => { results := [.lit (.bool true)], args := [d1, d2] }
  | _ => none }
def joinManyRow : OpenClaim := { program := "ytnpacjdgbmldlaa", sum := "9beb1b3ede060de56b62fe60fd03efae5b491e112b3ac7910d9a62f8dbb7e75a", func := "maund/maundlaw08.JoinMany", spec := "joinMany", inPlace := ["internal/reflectlite.ValueOf", "internal/reflectlite.Swapper", "(internal/reflectlite.Value).Len"], unfollowed := true, recurses := true, plainKeys := false, apart := false }
def JoinManySaid : Prop := joinManyRow.holds Try.pinned (OpenSpec.ofChange joinManySpec)

/-- ITS FALSE NEIGHBOUR: 'it returns false'. Refute it at one input. -/
def joinManyWrong : ChangeSpec := { name := "joinMany", fn := fun _ => fun
  | [d1, d2] => { results := [.lit (.bool false)], args := [d1, d2] }
  | _ => none }
def JoinManyWrongFalsely : Prop := joinManyRow.holds Try.pinned (OpenSpec.ofChange joinManyWrong)

/-- 'maundlaw08.JoinLattice': WHATEVER THE INPUT: true; the input reads as it did. -/
def joinLatticeSpec : ChangeSpec := { name := "joinLattice", fn := fun _ => fun
  | [d1, d2, d3] => { results := [.lit (.bool true)], args := [d1, d2, d3] }
  | _ => none }
def joinLatticeRow : OpenClaim := { program := "ytnpacjdgbmldlaa", sum := "9beb1b3ede060de56b62fe60fd03efae5b491e112b3ac7910d9a62f8dbb7e75a", func := "maund/maundlaw08.JoinLattice", spec := "joinLattice", inPlace := ["internal/reflectlite.ValueOf", "internal/reflectlite.Swapper", "(internal/reflectlite.Value).Len"], unfollowed := true, recurses := true, plainKeys := false, apart := false }
def JoinLatticeSaid : Prop := joinLatticeRow.holds Try.pinned (OpenSpec.ofChange joinLatticeSpec)

/-- ITS FALSE NEIGHBOUR: 'it returns false'. Refute it at one input. -/
def joinLatticeWrong : ChangeSpec := { name := "joinLattice", fn := fun _ => fun
  | [d1, d2, d3] => { results := [.lit (.bool false)], args := [d1, d2, d3] }
  | _ => none }
def JoinLatticeWrongFalsely : Prop := joinLatticeRow.holds Try.pinned (OpenSpec.ofChange joinLatticeWrong)

/-- 'maundlaw08.JoinOff': WHATEVER THE INPUT: true; the input reads as it did. -/
def joinOffSpec : ChangeSpec := { name := "joinOff", fn := fun _ => fun
  | [d1, d2, d3] => { results := [.lit (.bool true)], args := [d1, d2, d3] }
  | _ => none }
def joinOffRow : OpenClaim := { program := "ytnpacjdgbmldlaa", sum := "9beb1b3ede060de56b62fe60fd03efae5b491e112b3ac7910d9a62f8dbb7e75a", func := "maund/maundlaw08.JoinOff", spec := "joinOff", inPlace := ["internal/reflectlite.ValueOf", "internal/reflectlite.Swapper", "(internal/reflectlite.Value).Len"], unfollowed := true, recurses := true, plainKeys := false, apart := false }
def JoinOffSaid : Prop := joinOffRow.holds Try.pinned (OpenSpec.ofChange joinOffSpec)

/-- ITS FALSE NEIGHBOUR: 'it returns false'. Refute it at one input. -/
def joinOffWrong : ChangeSpec := { name := "joinOff", fn := fun _ => fun
  | [d1, d2, d3] => { results := [.lit (.bool false)], args := [d1, d2, d3] }
  | _ => none }
def JoinOffWrongFalsely : Prop := joinOffRow.holds Try.pinned (OpenSpec.ofChange joinOffWrong)

/-- 'maundlaw08.JoinEdits': WHATEVER THE INPUT: true; the input reads as it did. -/
def joinEditsSpec : ChangeSpec := { name := "joinEdits", fn := fun _ => fun
  | [d1, d2, d3, d4] => { results := [.lit (.bool true)], args := [d1, d2, d3, d4] }
  | _ => none }
def joinEditsRow : OpenClaim := { program := "ytnpacjdgbmldlaa", sum := "9beb1b3ede060de56b62fe60fd03efae5b491e112b3ac7910d9a62f8dbb7e75a", func := "maund/maundlaw08.JoinEdits", spec := "joinEdits", inPlace := ["internal/reflectlite.ValueOf", "internal/reflectlite.Swapper", "(internal/reflectlite.Value).Len"], unfollowed := true, recurses := true, plainKeys := false, apart := false }
def JoinEditsSaid : Prop := joinEditsRow.holds Try.pinned (OpenSpec.ofChange joinEditsSpec)

/-- ITS FALSE NEIGHBOUR: 'it returns false'. Refute it at one input. -/
def joinEditsWrong : ChangeSpec := { name := "joinEdits", fn := fun _ => fun
  | [d1, d2, d3, d4] => { results := [.lit (.bool false)], args := [d1, d2, d3, d4] }
  | _ => none }
def JoinEditsWrongFalsely : Prop := joinEditsRow.holds Try.pinned (OpenSpec.ofChange joinEditsWrong)

/- THE SECOND FORM. 'bulk': how many values and letters a reading holds, each counted each time it is reached (what is shared counts as often as it is met; a slice's spare places count too). A statement '..UptoSaid' is the law's where the arguments, and the package variables that the reading takes, are together of bulk at most 1048576: NARROWER than '..Said'. Prove '..Said' where nothing that the law and all that it calls make is longer than what came in: it says more and counts as full. Else prove '..UptoSaid'. A law counts once. -/
mutual
def uptoBulk {H : Type} : DataW H → Nat
  | .lit (.string bytes) => bytes.length + 1
  | .lit _ => 1
  | .nil => 1
  | .ptr d => uptoBulk d + 1
  | .slice elems spare => uptoBulkAll elems + uptoBulkAll spare + 1
  | .agg parts => uptoBulkAll parts + 1
  | .iface _ d => uptoBulk d + 1
  | .map entries => uptoBulkEntries entries + 1
  | .held _ => 1
def uptoBulkAll {H : Type} : List (DataW H) → Nat
  | [] => 0
  | d :: r => uptoBulk d + uptoBulkAll r
def uptoBulkEntries {H : Type} : List (Lit × DataW H) → Nat
  | [] => 0
  | x :: r => uptoBulkEntry x + uptoBulkEntries r
def uptoBulkEntry {H : Type} : Lit × DataW H → Nat
  | (.string bytes, d) => bytes.length + uptoBulk d + 1
  | (_, d) => uptoBulk d + 1
 end
def uptoSmall : (H : Type) → List (DataW H) → Bool := fun _ ds => decide (uptoBulkAll ds ≤ 1048576)
def OpenSpec.upto (s : _root_.Go.ChangeSpec) : _root_.Go.OpenSpec := { _root_.Go.OpenSpec.ofChange s with cond := some uptoSmall }

/-- 'maundlaw04.DotsTell', WHERE WHAT IT READS IS OF BULK AT MOST 1048576: true; the input reads as it did. -/
def dotsTellUptoRow : OpenClaim := { program := "ytnpacjdgbmldlaa", sum := "9beb1b3ede060de56b62fe60fd03efae5b491e112b3ac7910d9a62f8dbb7e75a", func := "maund/maundlaw04.DotsTell", spec := "dotsTell", unfollowed := true, recurses := true, plainKeys := false, apart := false, narrowed := true }
def DotsTellUptoSaid : Prop := dotsTellUptoRow.holds Try.pinned (OpenSpec.upto dotsTellSpec)

/-- 'maundlaw04.DotsMany', WHERE WHAT IT READS IS OF BULK AT MOST 1048576: true; the input reads as it did. -/
def dotsManyUptoRow : OpenClaim := { program := "ytnpacjdgbmldlaa", sum := "9beb1b3ede060de56b62fe60fd03efae5b491e112b3ac7910d9a62f8dbb7e75a", func := "maund/maundlaw04.DotsMany", spec := "dotsMany", unfollowed := true, recurses := true, plainKeys := false, apart := false, narrowed := true }
def DotsManyUptoSaid : Prop := dotsManyUptoRow.holds Try.pinned (OpenSpec.upto dotsManySpec)

/-- 'maundlaw04.DotsSets', WHERE WHAT IT READS IS OF BULK AT MOST 1048576: true; the input reads as it did. -/
def dotsSetsUptoRow : OpenClaim := { program := "ytnpacjdgbmldlaa", sum := "9beb1b3ede060de56b62fe60fd03efae5b491e112b3ac7910d9a62f8dbb7e75a", func := "maund/maundlaw04.DotsSets", spec := "dotsSets", unfollowed := true, recurses := true, plainKeys := false, apart := false, narrowed := true }
def DotsSetsUptoSaid : Prop := dotsSetsUptoRow.holds Try.pinned (OpenSpec.upto dotsSetsSpec)

/-- 'maundlaw04.DotsWhole', WHERE WHAT IT READS IS OF BULK AT MOST 1048576: true; the input reads as it did. -/
def dotsWholeUptoRow : OpenClaim := { program := "ytnpacjdgbmldlaa", sum := "9beb1b3ede060de56b62fe60fd03efae5b491e112b3ac7910d9a62f8dbb7e75a", func := "maund/maundlaw04.DotsWhole", spec := "dotsWhole", unfollowed := true, recurses := true, plainKeys := false, apart := false, narrowed := true }
def DotsWholeUptoSaid : Prop := dotsWholeUptoRow.holds Try.pinned (OpenSpec.upto dotsWholeSpec)

/-- 'maundlaw06.CartMany', WHERE WHAT IT READS IS OF BULK AT MOST 1048576: true; the input reads as it did. -/
def cartManyUptoRow : OpenClaim := { program := "ytnpacjdgbmldlaa", sum := "9beb1b3ede060de56b62fe60fd03efae5b491e112b3ac7910d9a62f8dbb7e75a", func := "maund/maundlaw06.CartMany", spec := "cartMany", inPlace := ["internal/reflectlite.ValueOf", "internal/reflectlite.Swapper", "(internal/reflectlite.Value).Len"], unfollowed := true, recurses := true, plainKeys := false, apart := false, narrowed := true }
def CartManyUptoSaid : Prop := cartManyUptoRow.holds Try.pinned (OpenSpec.upto cartManySpec)

/-- 'maundlaw06.CartDots', WHERE WHAT IT READS IS OF BULK AT MOST 1048576: true; the input reads as it did. -/
def cartDotsUptoRow : OpenClaim := { program := "ytnpacjdgbmldlaa", sum := "9beb1b3ede060de56b62fe60fd03efae5b491e112b3ac7910d9a62f8dbb7e75a", func := "maund/maundlaw06.CartDots", spec := "cartDots", inPlace := ["internal/reflectlite.ValueOf", "internal/reflectlite.Swapper", "(internal/reflectlite.Value).Len"], unfollowed := true, recurses := true, plainKeys := false, apart := false, narrowed := true }
def CartDotsUptoSaid : Prop := cartDotsUptoRow.holds Try.pinned (OpenSpec.upto cartDotsSpec)

/-- 'maundlaw06.CartValue', WHERE WHAT IT READS IS OF BULK AT MOST 1048576: true; the input reads as it did. -/
def cartValueUptoRow : OpenClaim := { program := "ytnpacjdgbmldlaa", sum := "9beb1b3ede060de56b62fe60fd03efae5b491e112b3ac7910d9a62f8dbb7e75a", func := "maund/maundlaw06.CartValue", spec := "cartValue", inPlace := ["internal/reflectlite.ValueOf", "internal/reflectlite.Swapper", "(internal/reflectlite.Value).Len"], unfollowed := true, recurses := true, plainKeys := false, apart := false, narrowed := true }
def CartValueUptoSaid : Prop := cartValueUptoRow.holds Try.pinned (OpenSpec.upto cartValueSpec)

/-- 'maundlaw06.CartOrders', WHERE WHAT IT READS IS OF BULK AT MOST 1048576: true; the input reads as it did. -/
def cartOrdersUptoRow : OpenClaim := { program := "ytnpacjdgbmldlaa", sum := "9beb1b3ede060de56b62fe60fd03efae5b491e112b3ac7910d9a62f8dbb7e75a", func := "maund/maundlaw06.CartOrders", spec := "cartOrders", inPlace := ["internal/reflectlite.ValueOf", "internal/reflectlite.Swapper", "(internal/reflectlite.Value).Len"], unfollowed := true, recurses := true, plainKeys := false, apart := false, narrowed := true }
def CartOrdersUptoSaid : Prop := cartOrdersUptoRow.holds Try.pinned (OpenSpec.upto cartOrdersSpec)

/-- 'maundlaw07.EditSays', WHERE WHAT IT READS IS OF BULK AT MOST 1048576: true; the input reads as it did. -/
def editSaysUptoRow : OpenClaim := { program := "ytnpacjdgbmldlaa", sum := "9beb1b3ede060de56b62fe60fd03efae5b491e112b3ac7910d9a62f8dbb7e75a", func := "maund/maundlaw07.EditSays", spec := "editSays", inPlace := ["internal/reflectlite.ValueOf", "internal/reflectlite.Swapper", "(internal/reflectlite.Value).Len"], unfollowed := true, recurses := true, plainKeys := false, apart := false, narrowed := true }
def EditSaysUptoSaid : Prop := editSaysUptoRow.holds Try.pinned (OpenSpec.upto editSaysSpec)

/-- 'maundlaw07.EditDots', WHERE WHAT IT READS IS OF BULK AT MOST 1048576: true; the input reads as it did. -/
def editDotsUptoRow : OpenClaim := { program := "ytnpacjdgbmldlaa", sum := "9beb1b3ede060de56b62fe60fd03efae5b491e112b3ac7910d9a62f8dbb7e75a", func := "maund/maundlaw07.EditDots", spec := "editDots", inPlace := ["internal/reflectlite.ValueOf", "internal/reflectlite.Swapper", "(internal/reflectlite.Value).Len"], unfollowed := true, recurses := true, plainKeys := false, apart := false, narrowed := true }
def EditDotsUptoSaid : Prop := editDotsUptoRow.holds Try.pinned (OpenSpec.upto editDotsSpec)

/-- 'maundlaw08.JoinMany', WHERE WHAT IT READS IS OF BULK AT MOST 1048576: true; the input reads as it did. -/
def joinManyUptoRow : OpenClaim := { program := "ytnpacjdgbmldlaa", sum := "9beb1b3ede060de56b62fe60fd03efae5b491e112b3ac7910d9a62f8dbb7e75a", func := "maund/maundlaw08.JoinMany", spec := "joinMany", inPlace := ["internal/reflectlite.ValueOf", "internal/reflectlite.Swapper", "(internal/reflectlite.Value).Len"], unfollowed := true, recurses := true, plainKeys := false, apart := false, narrowed := true }
def JoinManyUptoSaid : Prop := joinManyUptoRow.holds Try.pinned (OpenSpec.upto joinManySpec)

/-- 'maundlaw08.JoinLattice', WHERE WHAT IT READS IS OF BULK AT MOST 1048576: true; the input reads as it did. -/
def joinLatticeUptoRow : OpenClaim := { program := "ytnpacjdgbmldlaa", sum := "9beb1b3ede060de56b62fe60fd03efae5b491e112b3ac7910d9a62f8dbb7e75a", func := "maund/maundlaw08.JoinLattice", spec := "joinLattice", inPlace := ["internal/reflectlite.ValueOf", "internal/reflectlite.Swapper", "(internal/reflectlite.Value).Len"], unfollowed := true, recurses := true, plainKeys := false, apart := false, narrowed := true }
def JoinLatticeUptoSaid : Prop := joinLatticeUptoRow.holds Try.pinned (OpenSpec.upto joinLatticeSpec)

/-- 'maundlaw08.JoinOff', WHERE WHAT IT READS IS OF BULK AT MOST 1048576: true; the input reads as it did. -/
def joinOffUptoRow : OpenClaim := { program := "ytnpacjdgbmldlaa", sum := "9beb1b3ede060de56b62fe60fd03efae5b491e112b3ac7910d9a62f8dbb7e75a", func := "maund/maundlaw08.JoinOff", spec := "joinOff", inPlace := ["internal/reflectlite.ValueOf", "internal/reflectlite.Swapper", "(internal/reflectlite.Value).Len"], unfollowed := true, recurses := true, plainKeys := false, apart := false, narrowed := true }
def JoinOffUptoSaid : Prop := joinOffUptoRow.holds Try.pinned (OpenSpec.upto joinOffSpec)

/-- 'maundlaw08.JoinEdits', WHERE WHAT IT READS IS OF BULK AT MOST 1048576: true; the input reads as it did. -/
def joinEditsUptoRow : OpenClaim := { program := "ytnpacjdgbmldlaa", sum := "9beb1b3ede060de56b62fe60fd03efae5b491e112b3ac7910d9a62f8dbb7e75a", func := "maund/maundlaw08.JoinEdits", spec := "joinEdits", inPlace := ["internal/reflectlite.ValueOf", "internal/reflectlite.Swapper", "(internal/reflectlite.Value).Len"], unfollowed := true, recurses := true, plainKeys := false, apart := false, narrowed := true }
def JoinEditsUptoSaid : Prop := joinEditsUptoRow.holds Try.pinned (OpenSpec.upto joinEditsSpec)

end Rows
end Go.Proofs.Ytnpacjdgbmldlaa
