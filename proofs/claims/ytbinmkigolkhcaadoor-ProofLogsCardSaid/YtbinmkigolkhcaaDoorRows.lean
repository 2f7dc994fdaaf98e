/-
  NARROWER THAN 'FOR EVERY INPUT', by the rows' own cells (each row's printed sentence says how): ProofHashes: laid · ProofMakes: laid · ProofJudges: laid · ProofAccuses: laid · ProofLogs: laid · ProofNobody: laid · ProofComplete: laid · ProofBinds: laid · ProofBlames: laid · ProofGrows: laid · ProofShort: laid · ProofOrder: laid · ProofFull: laid.
  DERIVED. THE GIVEN ROWS OF THIS SEAT. 13 by the template 'for every input the law returns true; each argument reads behind the call as it read before'; 0 by the template 'total and deterministic' (their statements: YtbinmkigolkhcaaDoorTotals.lean).
  GIVEN WITH THE SEED: the statements are not yours to turn. If you find one false, say at which input.
  Laid BY PROGRAM, IN A SANDBOX (cutbox-rows.mjs): the forced cells as the released guide's own fill.sh prints them over the translation 195f65bcf81a720e… (all of the seat's roots in one cut). By AI agents, Wed Nov 11 2026. No macro, syntax, notation, axiom, sorry.
-/
import Derived.Test.YtbinmkigolkhcaaDoorChecked
import GoSem.Claim
import GoSem.ClaimJoined
import GoSem.ClaimMapViews
import Derived.JoinedTies
import Derived.KernelRfl
namespace Go.Proofs.YtbinmkigolkhcaaDoor
/- THE CELL 'sum', in the pinned program and in every row, IS THE sha256 OF THE DUMP (.gsa) THAT YtbinmkigolkhcaaDoorProg.lean LOADS. Nothing in Lean hashes anything: it is a label: what it is worth is what the hold of that sum in a sandbox is worth. -/
noncomputable def Tryd.pinned : Pinned := { name := "ytbinmkigolkhcaadoor", sum := "195f65bcf81a720eec0f9cbc47869550befa61d6444059ee34f81190ac1825b7", checked := Tryd.checked }
namespace Rows
def none {H : Type} : Left H := { results := [], args := [] }

/- WHAT THE LISTED PACKAGE-LEVEL VARIABLES READ AS WHEN THE CALL BEGINS. Each datum BY PROGRAM (the guide's laid-datum.mjs) off the statement by which the dump's own 'gosem.cut.vars' lays the variable. In a bare row this is a premise. The card (YtbinmkigolkhcaaDoorCards.lean) ties it to the program's text. -/
def laid_math_bits_deBruijn32tab {H : Type} : DataW H := .agg [.lit (.int .u8 0), .lit (.int .u8 1), .lit (.int .u8 28), .lit (.int .u8 2), .lit (.int .u8 29), .lit (.int .u8 14), .lit (.int .u8 24), .lit (.int .u8 3), .lit (.int .u8 30), .lit (.int .u8 22), .lit (.int .u8 20), .lit (.int .u8 15), .lit (.int .u8 25), .lit (.int .u8 17), .lit (.int .u8 4), .lit (.int .u8 8), .lit (.int .u8 31), .lit (.int .u8 27), .lit (.int .u8 13), .lit (.int .u8 23), .lit (.int .u8 21), .lit (.int .u8 19), .lit (.int .u8 16), .lit (.int .u8 7), .lit (.int .u8 26), .lit (.int .u8 12), .lit (.int .u8 18), .lit (.int .u8 6), .lit (.int .u8 11), .lit (.int .u8 5), .lit (.int .u8 10), .lit (.int .u8 9)]
def laid_math_bits_deBruijn64tab {H : Type} : DataW H := .agg [.lit (.int .u8 0), .lit (.int .u8 1), .lit (.int .u8 56), .lit (.int .u8 2), .lit (.int .u8 57), .lit (.int .u8 49), .lit (.int .u8 28), .lit (.int .u8 3), .lit (.int .u8 61), .lit (.int .u8 58), .lit (.int .u8 42), .lit (.int .u8 50), .lit (.int .u8 38), .lit (.int .u8 29), .lit (.int .u8 17), .lit (.int .u8 4), .lit (.int .u8 62), .lit (.int .u8 47), .lit (.int .u8 59), .lit (.int .u8 36), .lit (.int .u8 45), .lit (.int .u8 43), .lit (.int .u8 51), .lit (.int .u8 22), .lit (.int .u8 53), .lit (.int .u8 39), .lit (.int .u8 33), .lit (.int .u8 30), .lit (.int .u8 24), .lit (.int .u8 18), .lit (.int .u8 12), .lit (.int .u8 5), .lit (.int .u8 63), .lit (.int .u8 55), .lit (.int .u8 48), .lit (.int .u8 27), .lit (.int .u8 60), .lit (.int .u8 41), .lit (.int .u8 37), .lit (.int .u8 16), .lit (.int .u8 46), .lit (.int .u8 35), .lit (.int .u8 44), .lit (.int .u8 21), .lit (.int .u8 52), .lit (.int .u8 32), .lit (.int .u8 23), .lit (.int .u8 11), .lit (.int .u8 54), .lit (.int .u8 26), .lit (.int .u8 40), .lit (.int .u8 15), .lit (.int .u8 34), .lit (.int .u8 20), .lit (.int .u8 31), .lit (.int .u8 10), .lit (.int .u8 25), .lit (.int .u8 14), .lit (.int .u8 19), .lit (.int .u8 9), .lit (.int .u8 13), .lit (.int .u8 8), .lit (.int .u8 7), .lit (.int .u8 6)]

/-- 'kimberlitelaw07.ProofHashes': WHATEVER THE INPUT: true; the input reads as it did. -/
def proofHashesSpec : ChangeSpec := { name := "proofHashes", fn := fun _ => fun
  | [d1, d2, d3, d4] => { results := [.lit (.bool true)], args := [d1, d2, d3, d4] }
  | _ => none }
def proofHashesRow : OpenClaim := { program := "ytbinmkigolkhcaadoor", sum := "195f65bcf81a720eec0f9cbc47869550befa61d6444059ee34f81190ac1825b7", func := "kimberlite/kimberlitelaw07.ProofHashes", spec := "proofHashes", unfollowed := true, recurses := true, named := ["math/bits.deBruijn32tab", "math/bits.deBruijn64tab"], apart := false, laid := [("math/bits.deBruijn32tab", laid_math_bits_deBruijn32tab), ("math/bits.deBruijn64tab", laid_math_bits_deBruijn64tab)] }
def ProofHashesSaid : Prop := proofHashesRow.holds Tryd.pinned (OpenSpec.ofChange proofHashesSpec)

/-- ITS FALSE NEIGHBOUR: 'it returns false'. Refute it at one input. -/
def proofHashesWrong : ChangeSpec := { name := "proofHashes", fn := fun _ => fun
  | [d1, d2, d3, d4] => { results := [.lit (.bool false)], args := [d1, d2, d3, d4] }
  | _ => none }
def ProofHashesWrongFalsely : Prop := proofHashesRow.holds Tryd.pinned (OpenSpec.ofChange proofHashesWrong)

/-- 'kimberlitelaw07.ProofMakes': WHATEVER THE INPUT: true; the input reads as it did. -/
def proofMakesSpec : ChangeSpec := { name := "proofMakes", fn := fun _ => fun
  | [d1, d2, d3] => { results := [.lit (.bool true)], args := [d1, d2, d3] }
  | _ => none }
def proofMakesRow : OpenClaim := { program := "ytbinmkigolkhcaadoor", sum := "195f65bcf81a720eec0f9cbc47869550befa61d6444059ee34f81190ac1825b7", func := "kimberlite/kimberlitelaw07.ProofMakes", spec := "proofMakes", unfollowed := true, recurses := true, named := ["math/bits.deBruijn32tab", "math/bits.deBruijn64tab"], apart := false, laid := [("math/bits.deBruijn32tab", laid_math_bits_deBruijn32tab), ("math/bits.deBruijn64tab", laid_math_bits_deBruijn64tab)] }
def ProofMakesSaid : Prop := proofMakesRow.holds Tryd.pinned (OpenSpec.ofChange proofMakesSpec)

/-- ITS FALSE NEIGHBOUR: 'it returns false'. Refute it at one input. -/
def proofMakesWrong : ChangeSpec := { name := "proofMakes", fn := fun _ => fun
  | [d1, d2, d3] => { results := [.lit (.bool false)], args := [d1, d2, d3] }
  | _ => none }
def ProofMakesWrongFalsely : Prop := proofMakesRow.holds Tryd.pinned (OpenSpec.ofChange proofMakesWrong)

/-- 'kimberlitelaw07.ProofJudges': WHATEVER THE INPUT: true; the input reads as it did. -/
def proofJudgesSpec : ChangeSpec := { name := "proofJudges", fn := fun _ => fun
  | [d1, d2, d3, d4, d5, d6, d7, d8] => { results := [.lit (.bool true)], args := [d1, d2, d3, d4, d5, d6, d7, d8] }
  | _ => none }
def proofJudgesRow : OpenClaim := { program := "ytbinmkigolkhcaadoor", sum := "195f65bcf81a720eec0f9cbc47869550befa61d6444059ee34f81190ac1825b7", func := "kimberlite/kimberlitelaw07.ProofJudges", spec := "proofJudges", unfollowed := true, recurses := true, named := ["math/bits.deBruijn32tab", "math/bits.deBruijn64tab"], apart := false, laid := [("math/bits.deBruijn32tab", laid_math_bits_deBruijn32tab), ("math/bits.deBruijn64tab", laid_math_bits_deBruijn64tab)] }
def ProofJudgesSaid : Prop := proofJudgesRow.holds Tryd.pinned (OpenSpec.ofChange proofJudgesSpec)

/-- ITS FALSE NEIGHBOUR: 'it returns false'. Refute it at one input. -/
def proofJudgesWrong : ChangeSpec := { name := "proofJudges", fn := fun _ => fun
  | [d1, d2, d3, d4, d5, d6, d7, d8] => { results := [.lit (.bool false)], args := [d1, d2, d3, d4, d5, d6, d7, d8] }
  | _ => none }
def ProofJudgesWrongFalsely : Prop := proofJudgesRow.holds Tryd.pinned (OpenSpec.ofChange proofJudgesWrong)

/-- 'kimberlitelaw07.ProofAccuses': WHATEVER THE INPUT: true; the input reads as it did. -/
def proofAccusesSpec : ChangeSpec := { name := "proofAccuses", fn := fun _ => fun
  | [d1, d2, d3, d4] => { results := [.lit (.bool true)], args := [d1, d2, d3, d4] }
  | _ => none }
def proofAccusesRow : OpenClaim := { program := "ytbinmkigolkhcaadoor", sum := "195f65bcf81a720eec0f9cbc47869550befa61d6444059ee34f81190ac1825b7", func := "kimberlite/kimberlitelaw07.ProofAccuses", spec := "proofAccuses", unfollowed := true, recurses := true, named := ["math/bits.deBruijn32tab", "math/bits.deBruijn64tab"], apart := false, laid := [("math/bits.deBruijn32tab", laid_math_bits_deBruijn32tab), ("math/bits.deBruijn64tab", laid_math_bits_deBruijn64tab)] }
def ProofAccusesSaid : Prop := proofAccusesRow.holds Tryd.pinned (OpenSpec.ofChange proofAccusesSpec)

/-- ITS FALSE NEIGHBOUR: 'it returns false'. Refute it at one input. -/
def proofAccusesWrong : ChangeSpec := { name := "proofAccuses", fn := fun _ => fun
  | [d1, d2, d3, d4] => { results := [.lit (.bool false)], args := [d1, d2, d3, d4] }
  | _ => none }
def ProofAccusesWrongFalsely : Prop := proofAccusesRow.holds Tryd.pinned (OpenSpec.ofChange proofAccusesWrong)

/-- 'kimberlitelaw07.ProofLogs': WHATEVER THE INPUT: true; the input reads as it did. -/
def proofLogsSpec : ChangeSpec := { name := "proofLogs", fn := fun _ => fun
  | [d1, d2, d3, d4, d5] => { results := [.lit (.bool true)], args := [d1, d2, d3, d4, d5] }
  | _ => none }
def proofLogsRow : OpenClaim := { program := "ytbinmkigolkhcaadoor", sum := "195f65bcf81a720eec0f9cbc47869550befa61d6444059ee34f81190ac1825b7", func := "kimberlite/kimberlitelaw07.ProofLogs", spec := "proofLogs", unfollowed := true, recurses := true, named := ["math/bits.deBruijn32tab", "math/bits.deBruijn64tab"], apart := false, laid := [("math/bits.deBruijn32tab", laid_math_bits_deBruijn32tab), ("math/bits.deBruijn64tab", laid_math_bits_deBruijn64tab)] }
def ProofLogsSaid : Prop := proofLogsRow.holds Tryd.pinned (OpenSpec.ofChange proofLogsSpec)

/-- ITS FALSE NEIGHBOUR: 'it returns false'. Refute it at one input. -/
def proofLogsWrong : ChangeSpec := { name := "proofLogs", fn := fun _ => fun
  | [d1, d2, d3, d4, d5] => { results := [.lit (.bool false)], args := [d1, d2, d3, d4, d5] }
  | _ => none }
def ProofLogsWrongFalsely : Prop := proofLogsRow.holds Tryd.pinned (OpenSpec.ofChange proofLogsWrong)

/-- 'kimberlitelaw07.ProofNobody': WHATEVER THE INPUT: true; the input reads as it did. -/
def proofNobodySpec : ChangeSpec := { name := "proofNobody", fn := fun _ => fun
  | [d1, d2, d3, d4] => { results := [.lit (.bool true)], args := [d1, d2, d3, d4] }
  | _ => none }
def proofNobodyRow : OpenClaim := { program := "ytbinmkigolkhcaadoor", sum := "195f65bcf81a720eec0f9cbc47869550befa61d6444059ee34f81190ac1825b7", func := "kimberlite/kimberlitelaw07.ProofNobody", spec := "proofNobody", unfollowed := true, recurses := true, named := ["math/bits.deBruijn32tab", "math/bits.deBruijn64tab"], apart := false, laid := [("math/bits.deBruijn32tab", laid_math_bits_deBruijn32tab), ("math/bits.deBruijn64tab", laid_math_bits_deBruijn64tab)] }
def ProofNobodySaid : Prop := proofNobodyRow.holds Tryd.pinned (OpenSpec.ofChange proofNobodySpec)

/-- ITS FALSE NEIGHBOUR: 'it returns false'. Refute it at one input. -/
def proofNobodyWrong : ChangeSpec := { name := "proofNobody", fn := fun _ => fun
  | [d1, d2, d3, d4] => { results := [.lit (.bool false)], args := [d1, d2, d3, d4] }
  | _ => none }
def ProofNobodyWrongFalsely : Prop := proofNobodyRow.holds Tryd.pinned (OpenSpec.ofChange proofNobodyWrong)

/-- 'kimberlitelaw07.ProofComplete': WHATEVER THE INPUT: true; the input reads as it did. -/
def proofCompleteSpec : ChangeSpec := { name := "proofComplete", fn := fun _ => fun
  | [d1, d2, d3] => { results := [.lit (.bool true)], args := [d1, d2, d3] }
  | _ => none }
def proofCompleteRow : OpenClaim := { program := "ytbinmkigolkhcaadoor", sum := "195f65bcf81a720eec0f9cbc47869550befa61d6444059ee34f81190ac1825b7", func := "kimberlite/kimberlitelaw07.ProofComplete", spec := "proofComplete", unfollowed := true, recurses := true, named := ["math/bits.deBruijn32tab", "math/bits.deBruijn64tab"], apart := false, laid := [("math/bits.deBruijn32tab", laid_math_bits_deBruijn32tab), ("math/bits.deBruijn64tab", laid_math_bits_deBruijn64tab)] }
def ProofCompleteSaid : Prop := proofCompleteRow.holds Tryd.pinned (OpenSpec.ofChange proofCompleteSpec)

/-- ITS FALSE NEIGHBOUR: 'it returns false'. Refute it at one input. -/
def proofCompleteWrong : ChangeSpec := { name := "proofComplete", fn := fun _ => fun
  | [d1, d2, d3] => { results := [.lit (.bool false)], args := [d1, d2, d3] }
  | _ => none }
def ProofCompleteWrongFalsely : Prop := proofCompleteRow.holds Tryd.pinned (OpenSpec.ofChange proofCompleteWrong)

/-- 'kimberlitelaw07.ProofBinds': WHATEVER THE INPUT: true; the input reads as it did. -/
def proofBindsSpec : ChangeSpec := { name := "proofBinds", fn := fun _ => fun
  | [d1, d2, d3, d4, d5] => { results := [.lit (.bool true)], args := [d1, d2, d3, d4, d5] }
  | _ => none }
def proofBindsRow : OpenClaim := { program := "ytbinmkigolkhcaadoor", sum := "195f65bcf81a720eec0f9cbc47869550befa61d6444059ee34f81190ac1825b7", func := "kimberlite/kimberlitelaw07.ProofBinds", spec := "proofBinds", unfollowed := true, recurses := true, named := ["math/bits.deBruijn32tab", "math/bits.deBruijn64tab"], apart := false, laid := [("math/bits.deBruijn32tab", laid_math_bits_deBruijn32tab), ("math/bits.deBruijn64tab", laid_math_bits_deBruijn64tab)] }
def ProofBindsSaid : Prop := proofBindsRow.holds Tryd.pinned (OpenSpec.ofChange proofBindsSpec)

/-- ITS FALSE NEIGHBOUR: 'it returns false'. Refute it at one input. -/
def proofBindsWrong : ChangeSpec := { name := "proofBinds", fn := fun _ => fun
  | [d1, d2, d3, d4, d5] => { results := [.lit (.bool false)], args := [d1, d2, d3, d4, d5] }
  | _ => none }
def ProofBindsWrongFalsely : Prop := proofBindsRow.holds Tryd.pinned (OpenSpec.ofChange proofBindsWrong)

/-- 'kimberlitelaw07.ProofBlames': WHATEVER THE INPUT: true; the input reads as it did. -/
def proofBlamesSpec : ChangeSpec := { name := "proofBlames", fn := fun _ => fun
  | [d1, d2, d3, d4] => { results := [.lit (.bool true)], args := [d1, d2, d3, d4] }
  | _ => none }
def proofBlamesRow : OpenClaim := { program := "ytbinmkigolkhcaadoor", sum := "195f65bcf81a720eec0f9cbc47869550befa61d6444059ee34f81190ac1825b7", func := "kimberlite/kimberlitelaw07.ProofBlames", spec := "proofBlames", unfollowed := true, recurses := true, named := ["math/bits.deBruijn32tab", "math/bits.deBruijn64tab"], apart := false, laid := [("math/bits.deBruijn32tab", laid_math_bits_deBruijn32tab), ("math/bits.deBruijn64tab", laid_math_bits_deBruijn64tab)] }
def ProofBlamesSaid : Prop := proofBlamesRow.holds Tryd.pinned (OpenSpec.ofChange proofBlamesSpec)

/-- ITS FALSE NEIGHBOUR: 'it returns false'. Refute it at one input. -/
def proofBlamesWrong : ChangeSpec := { name := "proofBlames", fn := fun _ => fun
  | [d1, d2, d3, d4] => { results := [.lit (.bool false)], args := [d1, d2, d3, d4] }
  | _ => none }
def ProofBlamesWrongFalsely : Prop := proofBlamesRow.holds Tryd.pinned (OpenSpec.ofChange proofBlamesWrong)

/-- 'kimberlitelaw07.ProofGrows': WHATEVER THE INPUT: true; the input reads as it did. -/
def proofGrowsSpec : ChangeSpec := { name := "proofGrows", fn := fun _ => fun
  | [d1, d2, d3, d4, d5] => { results := [.lit (.bool true)], args := [d1, d2, d3, d4, d5] }
  | _ => none }
def proofGrowsRow : OpenClaim := { program := "ytbinmkigolkhcaadoor", sum := "195f65bcf81a720eec0f9cbc47869550befa61d6444059ee34f81190ac1825b7", func := "kimberlite/kimberlitelaw07.ProofGrows", spec := "proofGrows", unfollowed := true, recurses := true, named := ["math/bits.deBruijn32tab", "math/bits.deBruijn64tab"], apart := false, laid := [("math/bits.deBruijn32tab", laid_math_bits_deBruijn32tab), ("math/bits.deBruijn64tab", laid_math_bits_deBruijn64tab)] }
def ProofGrowsSaid : Prop := proofGrowsRow.holds Tryd.pinned (OpenSpec.ofChange proofGrowsSpec)

/-- ITS FALSE NEIGHBOUR: 'it returns false'. Refute it at one input. -/
def proofGrowsWrong : ChangeSpec := { name := "proofGrows", fn := fun _ => fun
  | [d1, d2, d3, d4, d5] => { results := [.lit (.bool false)], args := [d1, d2, d3, d4, d5] }
  | _ => none }
def ProofGrowsWrongFalsely : Prop := proofGrowsRow.holds Tryd.pinned (OpenSpec.ofChange proofGrowsWrong)

/-- 'kimberlitelaw07.ProofShort': WHATEVER THE INPUT: true; the input reads as it did. -/
def proofShortSpec : ChangeSpec := { name := "proofShort", fn := fun _ => fun
  | [d1, d2, d3] => { results := [.lit (.bool true)], args := [d1, d2, d3] }
  | _ => none }
def proofShortRow : OpenClaim := { program := "ytbinmkigolkhcaadoor", sum := "195f65bcf81a720eec0f9cbc47869550befa61d6444059ee34f81190ac1825b7", func := "kimberlite/kimberlitelaw07.ProofShort", spec := "proofShort", unfollowed := true, recurses := true, named := ["math/bits.deBruijn32tab", "math/bits.deBruijn64tab"], apart := false, laid := [("math/bits.deBruijn32tab", laid_math_bits_deBruijn32tab), ("math/bits.deBruijn64tab", laid_math_bits_deBruijn64tab)] }
def ProofShortSaid : Prop := proofShortRow.holds Tryd.pinned (OpenSpec.ofChange proofShortSpec)

/-- ITS FALSE NEIGHBOUR: 'it returns false'. Refute it at one input. -/
def proofShortWrong : ChangeSpec := { name := "proofShort", fn := fun _ => fun
  | [d1, d2, d3] => { results := [.lit (.bool false)], args := [d1, d2, d3] }
  | _ => none }
def ProofShortWrongFalsely : Prop := proofShortRow.holds Tryd.pinned (OpenSpec.ofChange proofShortWrong)

/-- 'kimberlitelaw07.ProofOrder': WHATEVER THE INPUT: true; the input reads as it did. -/
def proofOrderSpec : ChangeSpec := { name := "proofOrder", fn := fun _ => fun
  | [d1, d2, d3] => { results := [.lit (.bool true)], args := [d1, d2, d3] }
  | _ => none }
def proofOrderRow : OpenClaim := { program := "ytbinmkigolkhcaadoor", sum := "195f65bcf81a720eec0f9cbc47869550befa61d6444059ee34f81190ac1825b7", func := "kimberlite/kimberlitelaw07.ProofOrder", spec := "proofOrder", unfollowed := true, recurses := true, named := ["math/bits.deBruijn32tab", "math/bits.deBruijn64tab"], apart := false, laid := [("math/bits.deBruijn32tab", laid_math_bits_deBruijn32tab), ("math/bits.deBruijn64tab", laid_math_bits_deBruijn64tab)] }
def ProofOrderSaid : Prop := proofOrderRow.holds Tryd.pinned (OpenSpec.ofChange proofOrderSpec)

/-- ITS FALSE NEIGHBOUR: 'it returns false'. Refute it at one input. -/
def proofOrderWrong : ChangeSpec := { name := "proofOrder", fn := fun _ => fun
  | [d1, d2, d3] => { results := [.lit (.bool false)], args := [d1, d2, d3] }
  | _ => none }
def ProofOrderWrongFalsely : Prop := proofOrderRow.holds Tryd.pinned (OpenSpec.ofChange proofOrderWrong)

/-- 'kimberlitelaw07.ProofFull': WHATEVER THE INPUT: true; the input reads as it did. -/
def proofFullSpec : ChangeSpec := { name := "proofFull", fn := fun _ => fun
  | [d1, d2] => { results := [.lit (.bool true)], args := [d1, d2] }
  | _ => none }
def proofFullRow : OpenClaim := { program := "ytbinmkigolkhcaadoor", sum := "195f65bcf81a720eec0f9cbc47869550befa61d6444059ee34f81190ac1825b7", func := "kimberlite/kimberlitelaw07.ProofFull", spec := "proofFull", unfollowed := true, recurses := true, named := ["math/bits.deBruijn32tab", "math/bits.deBruijn64tab"], apart := false, laid := [("math/bits.deBruijn32tab", laid_math_bits_deBruijn32tab), ("math/bits.deBruijn64tab", laid_math_bits_deBruijn64tab)] }
def ProofFullSaid : Prop := proofFullRow.holds Tryd.pinned (OpenSpec.ofChange proofFullSpec)

/-- ITS FALSE NEIGHBOUR: 'it returns false'. Refute it at one input. -/
def proofFullWrong : ChangeSpec := { name := "proofFull", fn := fun _ => fun
  | [d1, d2] => { results := [.lit (.bool false)], args := [d1, d2] }
  | _ => none }
def ProofFullWrongFalsely : Prop := proofFullRow.holds Tryd.pinned (OpenSpec.ofChange proofFullWrong)

/- THE SECOND FORM. 'bulk': how many values and letters a reading holds, each counted each time it is reached (what is shared counts as often as it is met; a slice's spare places count too). A statement '..UptoSaid' is the law's where the arguments, and the package variables that the reading takes, are together of bulk at most 1048576: NARROWER than '..Said'. Prove '..Said' where nothing that the law and all that it calls make is longer than what came in: it says more and counts as full. Else prove '..UptoSaid'. A law counts once. -/
mutual
def uptoBulk {H : Type} : DataW H → Nat
  | .lit (.string bytes) => bytes.length + 1
  | .lit _ => 1
  | .nil => 1
  | .ptr d => uptoBulk d + 1
  | .slice elems spare => uptoBulkAll elems + uptoBulkAll spare + 1
  | .agg parts => uptoBulkAll parts + 1
  | .iface _ d => uptoBulk d + 1
  | .map entries => uptoBulkEntries entries + 1
  | .held _ => 1
def uptoBulkAll {H : Type} : List (DataW H) → Nat
  | [] => 0
  | d :: r => uptoBulk d + uptoBulkAll r
def uptoBulkEntries {H : Type} : List (Lit × DataW H) → Nat
  | [] => 0
  | x :: r => uptoBulkEntry x + uptoBulkEntries r
def uptoBulkEntry {H : Type} : Lit × DataW H → Nat
  | (.string bytes, d) => bytes.length + uptoBulk d + 1
  | (_, d) => uptoBulk d + 1
 end
def uptoSmall : (H : Type) → List (DataW H) → Bool := fun _ ds => decide (uptoBulkAll ds ≤ 1048576)
def OpenSpec.upto (s : _root_.Go.ChangeSpec) : _root_.Go.OpenSpec := { _root_.Go.OpenSpec.ofChange s with cond := some uptoSmall }

/-- 'kimberlitelaw07.ProofHashes', WHERE WHAT IT READS IS OF BULK AT MOST 1048576: true; the input reads as it did. -/
def proofHashesUptoRow : OpenClaim := { program := "ytbinmkigolkhcaadoor", sum := "195f65bcf81a720eec0f9cbc47869550befa61d6444059ee34f81190ac1825b7", func := "kimberlite/kimberlitelaw07.ProofHashes", spec := "proofHashes", unfollowed := true, recurses := true, named := ["math/bits.deBruijn32tab", "math/bits.deBruijn64tab"], apart := false, laid := [("math/bits.deBruijn32tab", laid_math_bits_deBruijn32tab), ("math/bits.deBruijn64tab", laid_math_bits_deBruijn64tab)], narrowed := true }
def ProofHashesUptoSaid : Prop := proofHashesUptoRow.holds Tryd.pinned (OpenSpec.upto proofHashesSpec)

/-- 'kimberlitelaw07.ProofMakes', WHERE WHAT IT READS IS OF BULK AT MOST 1048576: true; the input reads as it did. -/
def proofMakesUptoRow : OpenClaim := { program := "ytbinmkigolkhcaadoor", sum := "195f65bcf81a720eec0f9cbc47869550befa61d6444059ee34f81190ac1825b7", func := "kimberlite/kimberlitelaw07.ProofMakes", spec := "proofMakes", unfollowed := true, recurses := true, named := ["math/bits.deBruijn32tab", "math/bits.deBruijn64tab"], apart := false, laid := [("math/bits.deBruijn32tab", laid_math_bits_deBruijn32tab), ("math/bits.deBruijn64tab", laid_math_bits_deBruijn64tab)], narrowed := true }
def ProofMakesUptoSaid : Prop := proofMakesUptoRow.holds Tryd.pinned (OpenSpec.upto proofMakesSpec)

/-- 'kimberlitelaw07.ProofJudges', WHERE WHAT IT READS IS OF BULK AT MOST 1048576: true; the input reads as it did. -/
def proofJudgesUptoRow : OpenClaim := { program := "ytbinmkigolkhcaadoor", sum := "195f65bcf81a720eec0f9cbc47869550befa61d6444059ee34f81190ac1825b7", func := "kimberlite/kimberlitelaw07.ProofJudges", spec := "proofJudges", unfollowed := true, recurses := true, named := ["math/bits.deBruijn32tab", "math/bits.deBruijn64tab"], apart := false, laid := [("math/bits.deBruijn32tab", laid_math_bits_deBruijn32tab), ("math/bits.deBruijn64tab", laid_math_bits_deBruijn64tab)], narrowed := true }
def ProofJudgesUptoSaid : Prop := proofJudgesUptoRow.holds Tryd.pinned (OpenSpec.upto proofJudgesSpec)

/-- 'kimberlitelaw07.ProofAccuses', WHERE WHAT IT READS IS OF BULK AT MOST 1048576: true; the input reads as it did. -/
def proofAccusesUptoRow : OpenClaim := { program := "ytbinmkigolkhcaadoor", sum := "195f65bcf81a720eec0f9cbc47869550befa61d6444059ee34f81190ac1825b7", func := "kimberlite/kimberlitelaw07.ProofAccuses", spec := "proofAccuses", unfollowed := true, recurses := true, named := ["math/bits.deBruijn32tab", "math/bits.deBruijn64tab"], apart := false, laid := [("math/bits.deBruijn32tab", laid_math_bits_deBruijn32tab), ("math/bits.deBruijn64tab", laid_math_bits_deBruijn64tab)], narrowed := true }
def ProofAccusesUptoSaid : Prop := proofAccusesUptoRow.holds Tryd.pinned (OpenSpec.upto proofAccusesSpec)

/-- 'kimberlitelaw07.ProofLogs', WHERE WHAT IT READS IS OF BULK AT MOST 1048576: true; the input reads as it did. -/
def proofLogsUptoRow : OpenClaim := { program := "ytbinmkigolkhcaadoor", sum := "195f65bcf81a720eec0f9cbc47869550befa61d6444059ee34f81190ac1825b7", func := "kimberlite/kimberlitelaw07.ProofLogs", spec := "proofLogs", unfollowed := true, recurses := true, named := ["math/bits.deBruijn32tab", "math/bits.deBruijn64tab"], apart := false, laid := [("math/bits.deBruijn32tab", laid_math_bits_deBruijn32tab), ("math/bits.deBruijn64tab", laid_math_bits_deBruijn64tab)], narrowed := true }
def ProofLogsUptoSaid : Prop := proofLogsUptoRow.holds Tryd.pinned (OpenSpec.upto proofLogsSpec)

/-- 'kimberlitelaw07.ProofNobody', WHERE WHAT IT READS IS OF BULK AT MOST 1048576: true; the input reads as it did. -/
def proofNobodyUptoRow : OpenClaim := { program := "ytbinmkigolkhcaadoor", sum := "195f65bcf81a720eec0f9cbc47869550befa61d6444059ee34f81190ac1825b7", func := "kimberlite/kimberlitelaw07.ProofNobody", spec := "proofNobody", unfollowed := true, recurses := true, named := ["math/bits.deBruijn32tab", "math/bits.deBruijn64tab"], apart := false, laid := [("math/bits.deBruijn32tab", laid_math_bits_deBruijn32tab), ("math/bits.deBruijn64tab", laid_math_bits_deBruijn64tab)], narrowed := true }
def ProofNobodyUptoSaid : Prop := proofNobodyUptoRow.holds Tryd.pinned (OpenSpec.upto proofNobodySpec)

/-- 'kimberlitelaw07.ProofComplete', WHERE WHAT IT READS IS OF BULK AT MOST 1048576: true; the input reads as it did. -/
def proofCompleteUptoRow : OpenClaim := { program := "ytbinmkigolkhcaadoor", sum := "195f65bcf81a720eec0f9cbc47869550befa61d6444059ee34f81190ac1825b7", func := "kimberlite/kimberlitelaw07.ProofComplete", spec := "proofComplete", unfollowed := true, recurses := true, named := ["math/bits.deBruijn32tab", "math/bits.deBruijn64tab"], apart := false, laid := [("math/bits.deBruijn32tab", laid_math_bits_deBruijn32tab), ("math/bits.deBruijn64tab", laid_math_bits_deBruijn64tab)], narrowed := true }
def ProofCompleteUptoSaid : Prop := proofCompleteUptoRow.holds Tryd.pinned (OpenSpec.upto proofCompleteSpec)

/-- 'kimberlitelaw07.ProofBinds', WHERE WHAT IT READS IS OF BULK AT MOST 1048576: true; the input reads as it did. -/
def proofBindsUptoRow : OpenClaim := { program := "ytbinmkigolkhcaadoor", sum := "195f65bcf81a720eec0f9cbc47869550befa61d6444059ee34f81190ac1825b7", func := "kimberlite/kimberlitelaw07.ProofBinds", spec := "proofBinds", unfollowed := true, recurses := true, named := ["math/bits.deBruijn32tab", "math/bits.deBruijn64tab"], apart := false, laid := [("math/bits.deBruijn32tab", laid_math_bits_deBruijn32tab), ("math/bits.deBruijn64tab", laid_math_bits_deBruijn64tab)], narrowed := true }
def ProofBindsUptoSaid : Prop := proofBindsUptoRow.holds Tryd.pinned (OpenSpec.upto proofBindsSpec)

/-- 'kimberlitelaw07.ProofBlames', WHERE WHAT IT READS IS OF BULK AT MOST 1048576: true; the input reads as it did. -/
def proofBlamesUptoRow : OpenClaim := { program := "ytbinmkigolkhcaadoor", sum := "195f65bcf81a720eec0f9cbc47869550befa61d6444059ee34f81190ac1825b7", func := "kimberlite/kimberlitelaw07.ProofBlames", spec := "proofBlames", unfollowed := true, recurses := true, named := ["math/bits.deBruijn32tab", "math/bits.deBruijn64tab"], apart := false, laid := [("math/bits.deBruijn32tab", laid_math_bits_deBruijn32tab), ("math/bits.deBruijn64tab", laid_math_bits_deBruijn64tab)], narrowed := true }
def ProofBlamesUptoSaid : Prop := proofBlamesUptoRow.holds Tryd.pinned (OpenSpec.upto proofBlamesSpec)

/-- 'kimberlitelaw07.ProofGrows', WHERE WHAT IT READS IS OF BULK AT MOST 1048576: true; the input reads as it did. -/
def proofGrowsUptoRow : OpenClaim := { program := "ytbinmkigolkhcaadoor", sum := "195f65bcf81a720eec0f9cbc47869550befa61d6444059ee34f81190ac1825b7", func := "kimberlite/kimberlitelaw07.ProofGrows", spec := "proofGrows", unfollowed := true, recurses := true, named := ["math/bits.deBruijn32tab", "math/bits.deBruijn64tab"], apart := false, laid := [("math/bits.deBruijn32tab", laid_math_bits_deBruijn32tab), ("math/bits.deBruijn64tab", laid_math_bits_deBruijn64tab)], narrowed := true }
def ProofGrowsUptoSaid : Prop := proofGrowsUptoRow.holds Tryd.pinned (OpenSpec.upto proofGrowsSpec)

/-- 'kimberlitelaw07.ProofShort', WHERE WHAT IT READS IS OF BULK AT MOST 1048576: true; the input reads as it did. -/
def proofShortUptoRow : OpenClaim := { program := "ytbinmkigolkhcaadoor", sum := "195f65bcf81a720eec0f9cbc47869550befa61d6444059ee34f81190ac1825b7", func := "kimberlite/kimberlitelaw07.ProofShort", spec := "proofShort", unfollowed := true, recurses := true, named := ["math/bits.deBruijn32tab", "math/bits.deBruijn64tab"], apart := false, laid := [("math/bits.deBruijn32tab", laid_math_bits_deBruijn32tab), ("math/bits.deBruijn64tab", laid_math_bits_deBruijn64tab)], narrowed := true }
def ProofShortUptoSaid : Prop := proofShortUptoRow.holds Tryd.pinned (OpenSpec.upto proofShortSpec)

/-- 'kimberlitelaw07.ProofOrder', WHERE WHAT IT READS IS OF BULK AT MOST 1048576: true; the input reads as it did. -/
def proofOrderUptoRow : OpenClaim := { program := "ytbinmkigolkhcaadoor", sum := "195f65bcf81a720eec0f9cbc47869550befa61d6444059ee34f81190ac1825b7", func := "kimberlite/kimberlitelaw07.ProofOrder", spec := "proofOrder", unfollowed := true, recurses := true, named := ["math/bits.deBruijn32tab", "math/bits.deBruijn64tab"], apart := false, laid := [("math/bits.deBruijn32tab", laid_math_bits_deBruijn32tab), ("math/bits.deBruijn64tab", laid_math_bits_deBruijn64tab)], narrowed := true }
def ProofOrderUptoSaid : Prop := proofOrderUptoRow.holds Tryd.pinned (OpenSpec.upto proofOrderSpec)

/-- 'kimberlitelaw07.ProofFull', WHERE WHAT IT READS IS OF BULK AT MOST 1048576: true; the input reads as it did. -/
def proofFullUptoRow : OpenClaim := { program := "ytbinmkigolkhcaadoor", sum := "195f65bcf81a720eec0f9cbc47869550befa61d6444059ee34f81190ac1825b7", func := "kimberlite/kimberlitelaw07.ProofFull", spec := "proofFull", unfollowed := true, recurses := true, named := ["math/bits.deBruijn32tab", "math/bits.deBruijn64tab"], apart := false, laid := [("math/bits.deBruijn32tab", laid_math_bits_deBruijn32tab), ("math/bits.deBruijn64tab", laid_math_bits_deBruijn64tab)], narrowed := true }
def ProofFullUptoSaid : Prop := proofFullUptoRow.holds Tryd.pinned (OpenSpec.upto proofFullSpec)

end Rows
end Go.Proofs.YtbinmkigolkhcaaDoor
