/-
  NARROWER THAN 'FOR EVERY INPUT', by the rows' own cells (each row's printed sentence says how): CleanStays: loops · CleanText: loops · XmlBack: loops · RestTrees: loops.
  DERIVED. THE GIVEN ROWS OF THIS SEAT. 12 by the template 'for every input the law returns true; each argument reads behind the call as it read before'; 0 by the template 'total and deterministic' (their statements: YtlcljanibjdejaaGreatTotals.lean).
  GIVEN WITH THE SEED: the statements are not yours to turn. If you find one false, say at which input.
  Laid BY PROGRAM, IN A SANDBOX (cutbox-rows.mjs): the forced cells as the released guide's own fill.sh prints them over the translation f1434a37e2f3c74f… (all of the seat's roots in one cut). By AI agents, Wed Nov 11 2026. No macro, syntax, notation, axiom, sorry.
-/
import Derived.Test.YtlcljanibjdejaaGreatChecked
import GoSem.Claim
import GoSem.ClaimJoined
import GoSem.ClaimMapViews
import Derived.JoinedTies
import Derived.KernelRfl
namespace Go.Proofs.YtlcljanibjdejaaGreat
/- THE CELL 'sum', in the pinned program and in every row, IS THE sha256 OF THE DUMP (.gsa) THAT YtlcljanibjdejaaGreatProg.lean LOADS. Nothing in Lean hashes anything: it is a label: what it is worth is what the hold of that sum in a sandbox is worth. -/
noncomputable def Tryz.pinned : Pinned := { name := "ytlcljanibjdejaagreat", sum := "f1434a37e2f3c74f78a8d6b5ff9926a8a8ca4f2cb98cf7eeb6110181a453d5ea", checked := Tryz.checked }
namespace Rows
def none {H : Type} : Left H := { results := [], args := [] }

/-- 'marginalialaw.CleanGood': WHATEVER THE INPUT: true; the input reads as it did. -/
def cleanGoodSpec : ChangeSpec := { name := "cleanGood", fn := fun _ => fun
  | [d1, d2] => { results := [.lit (.bool true)], args := [d1, d2] }
  | _ => none }
def cleanGoodRow : OpenClaim := { program := "ytlcljanibjdejaagreat", sum := "f1434a37e2f3c74f78a8d6b5ff9926a8a8ca4f2cb98cf7eeb6110181a453d5ea", func := "marginalia/marginalialaw.CleanGood", spec := "cleanGood", inPlace := ["internal/bytealg.IndexByteString", "internal/bytealg.IndexString", "internal/abi.NoEscape", "internal/bytealg.MakeNoZero"], unfollowed := true, recurses := true, named := ["internal/bytealg.MaxLen"], apart := false }
def CleanGoodSaid : Prop := cleanGoodRow.holds Tryz.pinned (OpenSpec.ofChange cleanGoodSpec)

/-- ITS FALSE NEIGHBOUR: 'it returns false'. Refute it at one input. -/
def cleanGoodWrong : ChangeSpec := { name := "cleanGood", fn := fun _ => fun
  | [d1, d2] => { results := [.lit (.bool false)], args := [d1, d2] }
  | _ => none }
def CleanGoodWrongFalsely : Prop := cleanGoodRow.holds Tryz.pinned (OpenSpec.ofChange cleanGoodWrong)

/-- 'marginalialaw.CleanStays': WHATEVER THE INPUT: true; the input reads as it did. -/
def cleanStaysSpec : ChangeSpec := { name := "cleanStays", fn := fun _ => fun
  | [d1, d2, d3] => { results := [.lit (.bool true)], args := [d1, d2, d3] }
  | _ => none }
def cleanStaysRow : OpenClaim := { program := "ytlcljanibjdejaagreat", sum := "f1434a37e2f3c74f78a8d6b5ff9926a8a8ca4f2cb98cf7eeb6110181a453d5ea", func := "marginalia/marginalialaw.CleanStays", spec := "cleanStays", inPlace := ["internal/bytealg.IndexByteString", "internal/bytealg.IndexString", "internal/abi.NoEscape", "internal/bytealg.MakeNoZero"], unfollowed := true, recurses := true, named := ["internal/bytealg.MaxLen"], loops := true, apart := false }
def CleanStaysSaid : Prop := cleanStaysRow.holds Tryz.pinned (OpenSpec.ofChange cleanStaysSpec)

/-- ITS FALSE NEIGHBOUR: 'it returns false'. Refute it at one input. -/
def cleanStaysWrong : ChangeSpec := { name := "cleanStays", fn := fun _ => fun
  | [d1, d2, d3] => { results := [.lit (.bool false)], args := [d1, d2, d3] }
  | _ => none }
def CleanStaysWrongFalsely : Prop := cleanStaysRow.holds Tryz.pinned (OpenSpec.ofChange cleanStaysWrong)

/-- 'marginalialaw.CleanText': WHATEVER THE INPUT: true; the input reads as it did. -/
def cleanTextSpec : ChangeSpec := { name := "cleanText", fn := fun _ => fun
  | [d1, d2] => { results := [.lit (.bool true)], args := [d1, d2] }
  | _ => none }
def cleanTextRow : OpenClaim := { program := "ytlcljanibjdejaagreat", sum := "f1434a37e2f3c74f78a8d6b5ff9926a8a8ca4f2cb98cf7eeb6110181a453d5ea", func := "marginalia/marginalialaw.CleanText", spec := "cleanText", inPlace := ["internal/bytealg.IndexByteString", "internal/bytealg.IndexString", "internal/abi.NoEscape", "internal/bytealg.MakeNoZero"], unfollowed := true, recurses := true, named := ["internal/bytealg.MaxLen"], loops := true, apart := false }
def CleanTextSaid : Prop := cleanTextRow.holds Tryz.pinned (OpenSpec.ofChange cleanTextSpec)

/-- ITS FALSE NEIGHBOUR: 'it returns false'. Refute it at one input. -/
def cleanTextWrong : ChangeSpec := { name := "cleanText", fn := fun _ => fun
  | [d1, d2] => { results := [.lit (.bool false)], args := [d1, d2] }
  | _ => none }
def CleanTextWrongFalsely : Prop := cleanTextRow.holds Tryz.pinned (OpenSpec.ofChange cleanTextWrong)

/-- 'marginalialaw.XmlBack': WHATEVER THE INPUT: true; the input reads as it did. -/
def xmlBackSpec : ChangeSpec := { name := "xmlBack", fn := fun _ => fun
  | [d1, d2] => { results := [.lit (.bool true)], args := [d1, d2] }
  | _ => none }
def xmlBackRow : OpenClaim := { program := "ytlcljanibjdejaagreat", sum := "f1434a37e2f3c74f78a8d6b5ff9926a8a8ca4f2cb98cf7eeb6110181a453d5ea", func := "marginalia/marginalialaw.XmlBack", spec := "xmlBack", inPlace := ["internal/abi.NoEscape", "internal/bytealg.IndexByteString", "internal/bytealg.IndexString"], unfollowed := true, recurses := true, named := ["internal/bytealg.MaxLen"], loops := true, apart := false }
def XmlBackSaid : Prop := xmlBackRow.holds Tryz.pinned (OpenSpec.ofChange xmlBackSpec)

/-- ITS FALSE NEIGHBOUR: 'it returns false'. Refute it at one input. -/
def xmlBackWrong : ChangeSpec := { name := "xmlBack", fn := fun _ => fun
  | [d1, d2] => { results := [.lit (.bool false)], args := [d1, d2] }
  | _ => none }
def XmlBackWrongFalsely : Prop := xmlBackRow.holds Tryz.pinned (OpenSpec.ofChange xmlBackWrong)

/-- 'marginalialaw.XmlText': WHATEVER THE INPUT: true; the input reads as it did. -/
def xmlTextSpec : ChangeSpec := { name := "xmlText", fn := fun _ => fun
  | [d] => { results := [.lit (.bool true)], args := [d] }
  | _ => none }
def xmlTextRow : OpenClaim := { program := "ytlcljanibjdejaagreat", sum := "f1434a37e2f3c74f78a8d6b5ff9926a8a8ca4f2cb98cf7eeb6110181a453d5ea", func := "marginalia/marginalialaw.XmlText", spec := "xmlText", inPlace := ["internal/abi.NoEscape", "internal/bytealg.IndexByteString", "internal/bytealg.IndexString"], unfollowed := true, recurses := true, named := ["internal/bytealg.MaxLen"], apart := false }
def XmlTextSaid : Prop := xmlTextRow.holds Tryz.pinned (OpenSpec.ofChange xmlTextSpec)

/-- ITS FALSE NEIGHBOUR: 'it returns false'. Refute it at one input. -/
def xmlTextWrong : ChangeSpec := { name := "xmlText", fn := fun _ => fun
  | [d] => { results := [.lit (.bool false)], args := [d] }
  | _ => none }
def XmlTextWrongFalsely : Prop := xmlTextRow.holds Tryz.pinned (OpenSpec.ofChange xmlTextWrong)

/-- 'marginalialaw.RestTrees': WHATEVER THE INPUT: true; the input reads as it did. -/
def restTreesSpec : ChangeSpec := { name := "restTrees", fn := fun _ => fun
  | [d1, d2, d3] => { results := [.lit (.bool true)], args := [d1, d2, d3] }
  | _ => none }
def restTreesRow : OpenClaim := { program := "ytlcljanibjdejaagreat", sum := "f1434a37e2f3c74f78a8d6b5ff9926a8a8ca4f2cb98cf7eeb6110181a453d5ea", func := "marginalia/marginalialaw.RestTrees", spec := "restTrees", inPlace := ["internal/bytealg.IndexByteString", "internal/bytealg.IndexString", "internal/abi.NoEscape", "internal/bytealg.MakeNoZero"], unfollowed := true, recurses := true, named := ["internal/bytealg.MaxLen"], loops := true, apart := false }
def RestTreesSaid : Prop := restTreesRow.holds Tryz.pinned (OpenSpec.ofChange restTreesSpec)

/-- ITS FALSE NEIGHBOUR: 'it returns false'. Refute it at one input. -/
def restTreesWrong : ChangeSpec := { name := "restTrees", fn := fun _ => fun
  | [d1, d2, d3] => { results := [.lit (.bool false)], args := [d1, d2, d3] }
  | _ => none }
def RestTreesWrongFalsely : Prop := restTreesRow.holds Tryz.pinned (OpenSpec.ofChange restTreesWrong)

/-- 'marginalialaw.ShelfTells': WHATEVER THE INPUT: true; the input reads as it did. -/
def shelfTellsSpec : ChangeSpec := { name := "shelfTells", fn := fun _ => fun
  | [d1, d2, d3, d4] => { results := [.lit (.bool true)], args := [d1, d2, d3, d4] }
  | _ => none }
def shelfTellsRow : OpenClaim := { program := "ytlcljanibjdejaagreat", sum := "f1434a37e2f3c74f78a8d6b5ff9926a8a8ca4f2cb98cf7eeb6110181a453d5ea", func := "marginalia/marginalialaw.ShelfTells", spec := "shelfTells", inPlace := ["internal/abi.NoEscape", "internal/bytealg.IndexByteString", "internal/bytealg.IndexString", "slices.overlaps[marginalia/api.Entry]", "slices.overlaps[string]"], unfollowed := true, recurses := true, named := ["internal/bytealg.MaxLen"], apart := false }
def ShelfTellsSaid : Prop := shelfTellsRow.holds Tryz.pinned (OpenSpec.ofChange shelfTellsSpec)

/-- ITS FALSE NEIGHBOUR: 'it returns false'. Refute it at one input. -/
def shelfTellsWrong : ChangeSpec := { name := "shelfTells", fn := fun _ => fun
  | [d1, d2, d3, d4] => { results := [.lit (.bool false)], args := [d1, d2, d3, d4] }
  | _ => none }
def ShelfTellsWrongFalsely : Prop := shelfTellsRow.holds Tryz.pinned (OpenSpec.ofChange shelfTellsWrong)

/-- 'marginalialaw.ShelfOnce': WHATEVER THE INPUT: true; the input reads as it did. -/
def shelfOnceSpec : ChangeSpec := { name := "shelfOnce", fn := fun _ => fun
  | [d1, d2] => { results := [.lit (.bool true)], args := [d1, d2] }
  | _ => none }
def shelfOnceRow : OpenClaim := { program := "ytlcljanibjdejaagreat", sum := "f1434a37e2f3c74f78a8d6b5ff9926a8a8ca4f2cb98cf7eeb6110181a453d5ea", func := "marginalia/marginalialaw.ShelfOnce", spec := "shelfOnce", inPlace := ["internal/abi.NoEscape", "internal/bytealg.IndexByteString", "internal/bytealg.IndexString", "slices.overlaps[marginalia/api.Entry]", "slices.overlaps[string]"], unfollowed := true, recurses := true, named := ["internal/bytealg.MaxLen"], apart := false }
def ShelfOnceSaid : Prop := shelfOnceRow.holds Tryz.pinned (OpenSpec.ofChange shelfOnceSpec)

/-- ITS FALSE NEIGHBOUR: 'it returns false'. Refute it at one input. -/
def shelfOnceWrong : ChangeSpec := { name := "shelfOnce", fn := fun _ => fun
  | [d1, d2] => { results := [.lit (.bool false)], args := [d1, d2] }
  | _ => none }
def ShelfOnceWrongFalsely : Prop := shelfOnceRow.holds Tryz.pinned (OpenSpec.ofChange shelfOnceWrong)

/-- 'marginalialaw.ShelfMarks': WHATEVER THE INPUT: true; the input reads as it did. -/
def shelfMarksSpec : ChangeSpec := { name := "shelfMarks", fn := fun _ => fun
  | [d1, d2] => { results := [.lit (.bool true)], args := [d1, d2] }
  | _ => none }
def shelfMarksRow : OpenClaim := { program := "ytlcljanibjdejaagreat", sum := "f1434a37e2f3c74f78a8d6b5ff9926a8a8ca4f2cb98cf7eeb6110181a453d5ea", func := "marginalia/marginalialaw.ShelfMarks", spec := "shelfMarks", inPlace := ["internal/abi.NoEscape", "internal/bytealg.IndexByteString", "internal/bytealg.IndexString", "slices.overlaps[marginalia/api.Entry]", "slices.overlaps[string]"], unfollowed := true, recurses := true, named := ["internal/bytealg.MaxLen"], apart := false }
def ShelfMarksSaid : Prop := shelfMarksRow.holds Tryz.pinned (OpenSpec.ofChange shelfMarksSpec)

/-- ITS FALSE NEIGHBOUR: 'it returns false'. Refute it at one input. -/
def shelfMarksWrong : ChangeSpec := { name := "shelfMarks", fn := fun _ => fun
  | [d1, d2] => { results := [.lit (.bool false)], args := [d1, d2] }
  | _ => none }
def ShelfMarksWrongFalsely : Prop := shelfMarksRow.holds Tryz.pinned (OpenSpec.ofChange shelfMarksWrong)

/-- 'marginalialaw.ShelfNewest': WHATEVER THE INPUT: true; the input reads as it did. -/
def shelfNewestSpec : ChangeSpec := { name := "shelfNewest", fn := fun _ => fun
  | [d1, d2] => { results := [.lit (.bool true)], args := [d1, d2] }
  | _ => none }
def shelfNewestRow : OpenClaim := { program := "ytlcljanibjdejaagreat", sum := "f1434a37e2f3c74f78a8d6b5ff9926a8a8ca4f2cb98cf7eeb6110181a453d5ea", func := "marginalia/marginalialaw.ShelfNewest", spec := "shelfNewest", inPlace := ["internal/abi.NoEscape", "internal/bytealg.IndexByteString", "internal/bytealg.IndexString", "slices.overlaps[marginalia/api.Entry]", "slices.overlaps[string]"], unfollowed := true, recurses := true, named := ["internal/bytealg.MaxLen"], apart := false }
def ShelfNewestSaid : Prop := shelfNewestRow.holds Tryz.pinned (OpenSpec.ofChange shelfNewestSpec)

/-- ITS FALSE NEIGHBOUR: 'it returns false'. Refute it at one input. -/
def shelfNewestWrong : ChangeSpec := { name := "shelfNewest", fn := fun _ => fun
  | [d1, d2] => { results := [.lit (.bool false)], args := [d1, d2] }
  | _ => none }
def ShelfNewestWrongFalsely : Prop := shelfNewestRow.holds Tryz.pinned (OpenSpec.ofChange shelfNewestWrong)

/-- 'marginalialaw.FindTells': WHATEVER THE INPUT: true; the input reads as it did. -/
def findTellsSpec : ChangeSpec := { name := "findTells", fn := fun _ => fun
  | [d1, d2, d3, d4] => { results := [.lit (.bool true)], args := [d1, d2, d3, d4] }
  | _ => none }
def findTellsRow : OpenClaim := { program := "ytlcljanibjdejaagreat", sum := "f1434a37e2f3c74f78a8d6b5ff9926a8a8ca4f2cb98cf7eeb6110181a453d5ea", func := "marginalia/marginalialaw.FindTells", spec := "findTells", inPlace := ["internal/bytealg.IndexByteString", "internal/bytealg.IndexString", "internal/abi.NoEscape", "internal/bytealg.MakeNoZero"], unfollowed := true, recurses := true, named := ["internal/bytealg.MaxLen"], apart := false }
def FindTellsSaid : Prop := findTellsRow.holds Tryz.pinned (OpenSpec.ofChange findTellsSpec)

/-- ITS FALSE NEIGHBOUR: 'it returns false'. Refute it at one input. -/
def findTellsWrong : ChangeSpec := { name := "findTells", fn := fun _ => fun
  | [d1, d2, d3, d4] => { results := [.lit (.bool false)], args := [d1, d2, d3, d4] }
  | _ => none }
def FindTellsWrongFalsely : Prop := findTellsRow.holds Tryz.pinned (OpenSpec.ofChange findTellsWrong)

/-- 'marginalialaw.FindMarked': WHATEVER THE INPUT: true; the input reads as it did. -/
def findMarkedSpec : ChangeSpec := { name := "findMarked", fn := fun _ => fun
  | [d1, d2] => { results := [.lit (.bool true)], args := [d1, d2] }
  | _ => none }
def findMarkedRow : OpenClaim := { program := "ytlcljanibjdejaagreat", sum := "f1434a37e2f3c74f78a8d6b5ff9926a8a8ca4f2cb98cf7eeb6110181a453d5ea", func := "marginalia/marginalialaw.FindMarked", spec := "findMarked", inPlace := ["internal/bytealg.IndexByteString", "internal/bytealg.IndexString", "internal/abi.NoEscape", "internal/bytealg.MakeNoZero"], unfollowed := true, recurses := true, named := ["internal/bytealg.MaxLen"], apart := false }
def FindMarkedSaid : Prop := findMarkedRow.holds Tryz.pinned (OpenSpec.ofChange findMarkedSpec)

/-- ITS FALSE NEIGHBOUR: 'it returns false'. Refute it at one input. -/
def findMarkedWrong : ChangeSpec := { name := "findMarked", fn := fun _ => fun
  | [d1, d2] => { results := [.lit (.bool false)], args := [d1, d2] }
  | _ => none }
def FindMarkedWrongFalsely : Prop := findMarkedRow.holds Tryz.pinned (OpenSpec.ofChange findMarkedWrong)

/- THE SECOND FORM. 'bulk': how many values and letters a reading holds, each counted each time it is reached (what is shared counts as often as it is met; a slice's spare places count too). A statement '..UptoSaid' is the law's where the arguments, and the package variables that the reading takes, are together of bulk at most 1048576: NARROWER than '..Said'. Prove '..Said' where nothing that the law and all that it calls make is longer than what came in: it says more and counts as full. Else prove '..UptoSaid'. A law counts once. -/
mutual
def uptoBulk {H : Type} : DataW H → Nat
  | .lit (.string bytes) => bytes.length + 1
  | .lit _ => 1
  | .nil => 1
  | .ptr d => uptoBulk d + 1
  | .slice elems spare => uptoBulkAll elems + uptoBulkAll spare + 1
  | .agg parts => uptoBulkAll parts + 1
  | .iface _ d => uptoBulk d + 1
  | .map entries => uptoBulkEntries entries + 1
  | .held _ => 1
def uptoBulkAll {H : Type} : List (DataW H) → Nat
  | [] => 0
  | d :: r => uptoBulk d + uptoBulkAll r
def uptoBulkEntries {H : Type} : List (Lit × DataW H) → Nat
  | [] => 0
  | x :: r => uptoBulkEntry x + uptoBulkEntries r
def uptoBulkEntry {H : Type} : Lit × DataW H → Nat
  | (.string bytes, d) => bytes.length + uptoBulk d + 1
  | (_, d) => uptoBulk d + 1
 end
def uptoSmall : (H : Type) → List (DataW H) → Bool := fun _ ds => decide (uptoBulkAll ds ≤ 1048576)
def OpenSpec.upto (s : _root_.Go.ChangeSpec) : _root_.Go.OpenSpec := { _root_.Go.OpenSpec.ofChange s with cond := some uptoSmall }

/-- 'marginalialaw.CleanGood', WHERE WHAT IT READS IS OF BULK AT MOST 1048576: true; the input reads as it did. -/
def cleanGoodUptoRow : OpenClaim := { program := "ytlcljanibjdejaagreat", sum := "f1434a37e2f3c74f78a8d6b5ff9926a8a8ca4f2cb98cf7eeb6110181a453d5ea", func := "marginalia/marginalialaw.CleanGood", spec := "cleanGood", inPlace := ["internal/bytealg.IndexByteString", "internal/bytealg.IndexString", "internal/abi.NoEscape", "internal/bytealg.MakeNoZero"], unfollowed := true, recurses := true, named := ["internal/bytealg.MaxLen"], apart := false, narrowed := true }
def CleanGoodUptoSaid : Prop := cleanGoodUptoRow.holds Tryz.pinned (OpenSpec.upto cleanGoodSpec)

/-- 'marginalialaw.CleanStays', WHERE WHAT IT READS IS OF BULK AT MOST 1048576: true; the input reads as it did. -/
def cleanStaysUptoRow : OpenClaim := { program := "ytlcljanibjdejaagreat", sum := "f1434a37e2f3c74f78a8d6b5ff9926a8a8ca4f2cb98cf7eeb6110181a453d5ea", func := "marginalia/marginalialaw.CleanStays", spec := "cleanStays", inPlace := ["internal/bytealg.IndexByteString", "internal/bytealg.IndexString", "internal/abi.NoEscape", "internal/bytealg.MakeNoZero"], unfollowed := true, recurses := true, named := ["internal/bytealg.MaxLen"], loops := true, apart := false, narrowed := true }
def CleanStaysUptoSaid : Prop := cleanStaysUptoRow.holds Tryz.pinned (OpenSpec.upto cleanStaysSpec)

/-- 'marginalialaw.CleanText', WHERE WHAT IT READS IS OF BULK AT MOST 1048576: true; the input reads as it did. -/
def cleanTextUptoRow : OpenClaim := { program := "ytlcljanibjdejaagreat", sum := "f1434a37e2f3c74f78a8d6b5ff9926a8a8ca4f2cb98cf7eeb6110181a453d5ea", func := "marginalia/marginalialaw.CleanText", spec := "cleanText", inPlace := ["internal/bytealg.IndexByteString", "internal/bytealg.IndexString", "internal/abi.NoEscape", "internal/bytealg.MakeNoZero"], unfollowed := true, recurses := true, named := ["internal/bytealg.MaxLen"], loops := true, apart := false, narrowed := true }
def CleanTextUptoSaid : Prop := cleanTextUptoRow.holds Tryz.pinned (OpenSpec.upto cleanTextSpec)

/-- 'marginalialaw.XmlBack', WHERE WHAT IT READS IS OF BULK AT MOST 1048576: true; the input reads as it did. -/
def xmlBackUptoRow : OpenClaim := { program := "ytlcljanibjdejaagreat", sum := "f1434a37e2f3c74f78a8d6b5ff9926a8a8ca4f2cb98cf7eeb6110181a453d5ea", func := "marginalia/marginalialaw.XmlBack", spec := "xmlBack", inPlace := ["internal/abi.NoEscape", "internal/bytealg.IndexByteString", "internal/bytealg.IndexString"], unfollowed := true, recurses := true, named := ["internal/bytealg.MaxLen"], loops := true, apart := false, narrowed := true }
def XmlBackUptoSaid : Prop := xmlBackUptoRow.holds Tryz.pinned (OpenSpec.upto xmlBackSpec)

/-- 'marginalialaw.XmlText', WHERE WHAT IT READS IS OF BULK AT MOST 1048576: true; the input reads as it did. -/
def xmlTextUptoRow : OpenClaim := { program := "ytlcljanibjdejaagreat", sum := "f1434a37e2f3c74f78a8d6b5ff9926a8a8ca4f2cb98cf7eeb6110181a453d5ea", func := "marginalia/marginalialaw.XmlText", spec := "xmlText", inPlace := ["internal/abi.NoEscape", "internal/bytealg.IndexByteString", "internal/bytealg.IndexString"], unfollowed := true, recurses := true, named := ["internal/bytealg.MaxLen"], apart := false, narrowed := true }
def XmlTextUptoSaid : Prop := xmlTextUptoRow.holds Tryz.pinned (OpenSpec.upto xmlTextSpec)

/-- 'marginalialaw.RestTrees', WHERE WHAT IT READS IS OF BULK AT MOST 1048576: true; the input reads as it did. -/
def restTreesUptoRow : OpenClaim := { program := "ytlcljanibjdejaagreat", sum := "f1434a37e2f3c74f78a8d6b5ff9926a8a8ca4f2cb98cf7eeb6110181a453d5ea", func := "marginalia/marginalialaw.RestTrees", spec := "restTrees", inPlace := ["internal/bytealg.IndexByteString", "internal/bytealg.IndexString", "internal/abi.NoEscape", "internal/bytealg.MakeNoZero"], unfollowed := true, recurses := true, named := ["internal/bytealg.MaxLen"], loops := true, apart := false, narrowed := true }
def RestTreesUptoSaid : Prop := restTreesUptoRow.holds Tryz.pinned (OpenSpec.upto restTreesSpec)

/-- 'marginalialaw.ShelfTells', WHERE WHAT IT READS IS OF BULK AT MOST 1048576: true; the input reads as it did. -/
def shelfTellsUptoRow : OpenClaim := { program := "ytlcljanibjdejaagreat", sum := "f1434a37e2f3c74f78a8d6b5ff9926a8a8ca4f2cb98cf7eeb6110181a453d5ea", func := "marginalia/marginalialaw.ShelfTells", spec := "shelfTells", inPlace := ["internal/abi.NoEscape", "internal/bytealg.IndexByteString", "internal/bytealg.IndexString", "slices.overlaps[marginalia/api.Entry]", "slices.overlaps[string]"], unfollowed := true, recurses := true, named := ["internal/bytealg.MaxLen"], apart := false, narrowed := true }
def ShelfTellsUptoSaid : Prop := shelfTellsUptoRow.holds Tryz.pinned (OpenSpec.upto shelfTellsSpec)

/-- 'marginalialaw.ShelfOnce', WHERE WHAT IT READS IS OF BULK AT MOST 1048576: true; the input reads as it did. -/
def shelfOnceUptoRow : OpenClaim := { program := "ytlcljanibjdejaagreat", sum := "f1434a37e2f3c74f78a8d6b5ff9926a8a8ca4f2cb98cf7eeb6110181a453d5ea", func := "marginalia/marginalialaw.ShelfOnce", spec := "shelfOnce", inPlace := ["internal/abi.NoEscape", "internal/bytealg.IndexByteString", "internal/bytealg.IndexString", "slices.overlaps[marginalia/api.Entry]", "slices.overlaps[string]"], unfollowed := true, recurses := true, named := ["internal/bytealg.MaxLen"], apart := false, narrowed := true }
def ShelfOnceUptoSaid : Prop := shelfOnceUptoRow.holds Tryz.pinned (OpenSpec.upto shelfOnceSpec)

/-- 'marginalialaw.ShelfMarks', WHERE WHAT IT READS IS OF BULK AT MOST 1048576: true; the input reads as it did. -/
def shelfMarksUptoRow : OpenClaim := { program := "ytlcljanibjdejaagreat", sum := "f1434a37e2f3c74f78a8d6b5ff9926a8a8ca4f2cb98cf7eeb6110181a453d5ea", func := "marginalia/marginalialaw.ShelfMarks", spec := "shelfMarks", inPlace := ["internal/abi.NoEscape", "internal/bytealg.IndexByteString", "internal/bytealg.IndexString", "slices.overlaps[marginalia/api.Entry]", "slices.overlaps[string]"], unfollowed := true, recurses := true, named := ["internal/bytealg.MaxLen"], apart := false, narrowed := true }
def ShelfMarksUptoSaid : Prop := shelfMarksUptoRow.holds Tryz.pinned (OpenSpec.upto shelfMarksSpec)

/-- 'marginalialaw.ShelfNewest', WHERE WHAT IT READS IS OF BULK AT MOST 1048576: true; the input reads as it did. -/
def shelfNewestUptoRow : OpenClaim := { program := "ytlcljanibjdejaagreat", sum := "f1434a37e2f3c74f78a8d6b5ff9926a8a8ca4f2cb98cf7eeb6110181a453d5ea", func := "marginalia/marginalialaw.ShelfNewest", spec := "shelfNewest", inPlace := ["internal/abi.NoEscape", "internal/bytealg.IndexByteString", "internal/bytealg.IndexString", "slices.overlaps[marginalia/api.Entry]", "slices.overlaps[string]"], unfollowed := true, recurses := true, named := ["internal/bytealg.MaxLen"], apart := false, narrowed := true }
def ShelfNewestUptoSaid : Prop := shelfNewestUptoRow.holds Tryz.pinned (OpenSpec.upto shelfNewestSpec)

/-- 'marginalialaw.FindTells', WHERE WHAT IT READS IS OF BULK AT MOST 1048576: true; the input reads as it did. -/
def findTellsUptoRow : OpenClaim := { program := "ytlcljanibjdejaagreat", sum := "f1434a37e2f3c74f78a8d6b5ff9926a8a8ca4f2cb98cf7eeb6110181a453d5ea", func := "marginalia/marginalialaw.FindTells", spec := "findTells", inPlace := ["internal/bytealg.IndexByteString", "internal/bytealg.IndexString", "internal/abi.NoEscape", "internal/bytealg.MakeNoZero"], unfollowed := true, recurses := true, named := ["internal/bytealg.MaxLen"], apart := false, narrowed := true }
def FindTellsUptoSaid : Prop := findTellsUptoRow.holds Tryz.pinned (OpenSpec.upto findTellsSpec)

/-- 'marginalialaw.FindMarked', WHERE WHAT IT READS IS OF BULK AT MOST 1048576: true; the input reads as it did. -/
def findMarkedUptoRow : OpenClaim := { program := "ytlcljanibjdejaagreat", sum := "f1434a37e2f3c74f78a8d6b5ff9926a8a8ca4f2cb98cf7eeb6110181a453d5ea", func := "marginalia/marginalialaw.FindMarked", spec := "findMarked", inPlace := ["internal/bytealg.IndexByteString", "internal/bytealg.IndexString", "internal/abi.NoEscape", "internal/bytealg.MakeNoZero"], unfollowed := true, recurses := true, named := ["internal/bytealg.MaxLen"], apart := false, narrowed := true }
def FindMarkedUptoSaid : Prop := findMarkedUptoRow.holds Tryz.pinned (OpenSpec.upto findMarkedSpec)

end Rows
end Go.Proofs.YtlcljanibjdejaaGreat
