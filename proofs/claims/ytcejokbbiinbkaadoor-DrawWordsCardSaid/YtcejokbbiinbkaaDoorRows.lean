/-
  NARROWER THAN 'FOR EVERY INPUT', by the rows' own cells (each row's printed sentence says how): DrawWords: laid · DrawNums: laid · DrawBetween: laid · DrawPicks: laid · DrawCoins: laid · DrawFair: laid.
  DERIVED. THE GIVEN ROWS OF THIS SEAT. 6 by the template 'for every input the law returns true; each argument reads behind the call as it read before'; 0 by the template 'total and deterministic' (their statements: YtcejokbbiinbkaaDoorTotals.lean).
  GIVEN WITH THE SEED: the statements are not yours to turn. If you find one false, say at which input.
  Laid BY PROGRAM, IN A SANDBOX (cutbox-rows.mjs): the forced cells as the released guide's own fill.sh prints them over the translation f8324e1456615534… (all of the seat's roots in one cut). By AI agents, Wed Nov 11 2026. No macro, syntax, notation, axiom, sorry.
-/
import Derived.Test.YtcejokbbiinbkaaDoorChecked
import GoSem.Claim
import GoSem.ClaimJoined
import GoSem.ClaimMapViews
import Derived.JoinedTies
import Derived.KernelRfl
namespace Go.Proofs.YtcejokbbiinbkaaDoor
/- THE CELL 'sum', in the pinned program and in every row, IS THE sha256 OF THE DUMP (.gsa) THAT YtcejokbbiinbkaaDoorProg.lean LOADS. Nothing in Lean hashes anything: it is a label: what it is worth is what the hold of that sum in a sandbox is worth. -/
noncomputable def Tryd.pinned : Pinned := { name := "ytcejokbbiinbkaadoor", sum := "f8324e1456615534c5867b7e39e32683bdf6e6817f497721cd7e33f4bb24f5c8", checked := Tryd.checked }
namespace Rows
def none {H : Type} : Left H := { results := [], args := [] }

/- WHAT THE LISTED PACKAGE-LEVEL VARIABLES READ AS WHEN THE CALL BEGINS. Each datum BY PROGRAM (the guide's laid-datum.mjs) off the statement by which the dump's own 'gosem.cut.vars' lays the variable. In a bare row this is a premise. The card (YtcejokbbiinbkaaDoorCards.lean) ties it to the program's text. -/
def laid_diorama_dioramaref02_constants {H : Type} : DataW H := .agg [.lit (.int .u32 1116352408), .lit (.int .u32 1899447441), .lit (.int .u32 3049323471), .lit (.int .u32 3921009573), .lit (.int .u32 961987163), .lit (.int .u32 1508970993), .lit (.int .u32 2453635748), .lit (.int .u32 2870763221), .lit (.int .u32 3624381080), .lit (.int .u32 310598401), .lit (.int .u32 607225278), .lit (.int .u32 1426881987), .lit (.int .u32 1925078388), .lit (.int .u32 2162078206), .lit (.int .u32 2614888103), .lit (.int .u32 3248222580), .lit (.int .u32 3835390401), .lit (.int .u32 4022224774), .lit (.int .u32 264347078), .lit (.int .u32 604807628), .lit (.int .u32 770255983), .lit (.int .u32 1249150122), .lit (.int .u32 1555081692), .lit (.int .u32 1996064986), .lit (.int .u32 2554220882), .lit (.int .u32 2821834349), .lit (.int .u32 2952996808), .lit (.int .u32 3210313671), .lit (.int .u32 3336571891), .lit (.int .u32 3584528711), .lit (.int .u32 113926993), .lit (.int .u32 338241895), .lit (.int .u32 666307205), .lit (.int .u32 773529912), .lit (.int .u32 1294757372), .lit (.int .u32 1396182291), .lit (.int .u32 1695183700), .lit (.int .u32 1986661051), .lit (.int .u32 2177026350), .lit (.int .u32 2456956037), .lit (.int .u32 2730485921), .lit (.int .u32 2820302411), .lit (.int .u32 3259730800), .lit (.int .u32 3345764771), .lit (.int .u32 3516065817), .lit (.int .u32 3600352804), .lit (.int .u32 4094571909), .lit (.int .u32 275423344), .lit (.int .u32 430227734), .lit (.int .u32 506948616), .lit (.int .u32 659060556), .lit (.int .u32 883997877), .lit (.int .u32 958139571), .lit (.int .u32 1322822218), .lit (.int .u32 1537002063), .lit (.int .u32 1747873779), .lit (.int .u32 1955562222), .lit (.int .u32 2024104815), .lit (.int .u32 2227730452), .lit (.int .u32 2361852424), .lit (.int .u32 2428436474), .lit (.int .u32 2756734187), .lit (.int .u32 3204031479), .lit (.int .u32 3329325298)]
def laid_diorama_hash_roundConstants {H : Type} : DataW H := .agg [.lit (.int .u32 1116352408), .lit (.int .u32 1899447441), .lit (.int .u32 3049323471), .lit (.int .u32 3921009573), .lit (.int .u32 961987163), .lit (.int .u32 1508970993), .lit (.int .u32 2453635748), .lit (.int .u32 2870763221), .lit (.int .u32 3624381080), .lit (.int .u32 310598401), .lit (.int .u32 607225278), .lit (.int .u32 1426881987), .lit (.int .u32 1925078388), .lit (.int .u32 2162078206), .lit (.int .u32 2614888103), .lit (.int .u32 3248222580), .lit (.int .u32 3835390401), .lit (.int .u32 4022224774), .lit (.int .u32 264347078), .lit (.int .u32 604807628), .lit (.int .u32 770255983), .lit (.int .u32 1249150122), .lit (.int .u32 1555081692), .lit (.int .u32 1996064986), .lit (.int .u32 2554220882), .lit (.int .u32 2821834349), .lit (.int .u32 2952996808), .lit (.int .u32 3210313671), .lit (.int .u32 3336571891), .lit (.int .u32 3584528711), .lit (.int .u32 113926993), .lit (.int .u32 338241895), .lit (.int .u32 666307205), .lit (.int .u32 773529912), .lit (.int .u32 1294757372), .lit (.int .u32 1396182291), .lit (.int .u32 1695183700), .lit (.int .u32 1986661051), .lit (.int .u32 2177026350), .lit (.int .u32 2456956037), .lit (.int .u32 2730485921), .lit (.int .u32 2820302411), .lit (.int .u32 3259730800), .lit (.int .u32 3345764771), .lit (.int .u32 3516065817), .lit (.int .u32 3600352804), .lit (.int .u32 4094571909), .lit (.int .u32 275423344), .lit (.int .u32 430227734), .lit (.int .u32 506948616), .lit (.int .u32 659060556), .lit (.int .u32 883997877), .lit (.int .u32 958139571), .lit (.int .u32 1322822218), .lit (.int .u32 1537002063), .lit (.int .u32 1747873779), .lit (.int .u32 1955562222), .lit (.int .u32 2024104815), .lit (.int .u32 2227730452), .lit (.int .u32 2361852424), .lit (.int .u32 2428436474), .lit (.int .u32 2756734187), .lit (.int .u32 3204031479), .lit (.int .u32 3329325298)]

/-- 'dioramalaw05.DrawWords': WHATEVER THE INPUT: true; the input reads as it did. -/
def drawWordsSpec : ChangeSpec := { name := "drawWords", fn := fun _ => fun
  | [d1, d2, d3] => { results := [.lit (.bool true)], args := [d1, d2, d3] }
  | _ => none }
def drawWordsRow : OpenClaim := { program := "ytcejokbbiinbkaadoor", sum := "f8324e1456615534c5867b7e39e32683bdf6e6817f497721cd7e33f4bb24f5c8", func := "diorama/dioramalaw05.DrawWords", spec := "drawWords", unfollowed := true, recurses := true, named := ["diorama/hash.roundConstants", "diorama/dioramaref02.constants"], apart := false, laid := [("diorama/dioramaref02.constants", laid_diorama_dioramaref02_constants), ("diorama/hash.roundConstants", laid_diorama_hash_roundConstants)] }
def DrawWordsSaid : Prop := drawWordsRow.holds Tryd.pinned (OpenSpec.ofChange drawWordsSpec)

/-- ITS FALSE NEIGHBOUR: 'it returns false'. Refute it at one input. -/
def drawWordsWrong : ChangeSpec := { name := "drawWords", fn := fun _ => fun
  | [d1, d2, d3] => { results := [.lit (.bool false)], args := [d1, d2, d3] }
  | _ => none }
def DrawWordsWrongFalsely : Prop := drawWordsRow.holds Tryd.pinned (OpenSpec.ofChange drawWordsWrong)

/-- 'dioramalaw05.DrawNums': WHATEVER THE INPUT: true; the input reads as it did. -/
def drawNumsSpec : ChangeSpec := { name := "drawNums", fn := fun _ => fun
  | [d1, d2, d3] => { results := [.lit (.bool true)], args := [d1, d2, d3] }
  | _ => none }
def drawNumsRow : OpenClaim := { program := "ytcejokbbiinbkaadoor", sum := "f8324e1456615534c5867b7e39e32683bdf6e6817f497721cd7e33f4bb24f5c8", func := "diorama/dioramalaw05.DrawNums", spec := "drawNums", unfollowed := true, recurses := true, named := ["diorama/hash.roundConstants", "diorama/dioramaref02.constants"], apart := false, laid := [("diorama/dioramaref02.constants", laid_diorama_dioramaref02_constants), ("diorama/hash.roundConstants", laid_diorama_hash_roundConstants)] }
def DrawNumsSaid : Prop := drawNumsRow.holds Tryd.pinned (OpenSpec.ofChange drawNumsSpec)

/-- ITS FALSE NEIGHBOUR: 'it returns false'. Refute it at one input. -/
def drawNumsWrong : ChangeSpec := { name := "drawNums", fn := fun _ => fun
  | [d1, d2, d3] => { results := [.lit (.bool false)], args := [d1, d2, d3] }
  | _ => none }
def DrawNumsWrongFalsely : Prop := drawNumsRow.holds Tryd.pinned (OpenSpec.ofChange drawNumsWrong)

/-- 'dioramalaw05.DrawBetween': WHATEVER THE INPUT: true; the input reads as it did. -/
def drawBetweenSpec : ChangeSpec := { name := "drawBetween", fn := fun _ => fun
  | [d1, d2, d3, d4, d5] => { results := [.lit (.bool true)], args := [d1, d2, d3, d4, d5] }
  | _ => none }
def drawBetweenRow : OpenClaim := { program := "ytcejokbbiinbkaadoor", sum := "f8324e1456615534c5867b7e39e32683bdf6e6817f497721cd7e33f4bb24f5c8", func := "diorama/dioramalaw05.DrawBetween", spec := "drawBetween", unfollowed := true, recurses := true, named := ["diorama/hash.roundConstants", "diorama/dioramaref02.constants"], apart := false, laid := [("diorama/dioramaref02.constants", laid_diorama_dioramaref02_constants), ("diorama/hash.roundConstants", laid_diorama_hash_roundConstants)] }
def DrawBetweenSaid : Prop := drawBetweenRow.holds Tryd.pinned (OpenSpec.ofChange drawBetweenSpec)

/-- ITS FALSE NEIGHBOUR: 'it returns false'. Refute it at one input. -/
def drawBetweenWrong : ChangeSpec := { name := "drawBetween", fn := fun _ => fun
  | [d1, d2, d3, d4, d5] => { results := [.lit (.bool false)], args := [d1, d2, d3, d4, d5] }
  | _ => none }
def DrawBetweenWrongFalsely : Prop := drawBetweenRow.holds Tryd.pinned (OpenSpec.ofChange drawBetweenWrong)

/-- 'dioramalaw05.DrawPicks': WHATEVER THE INPUT: true; the input reads as it did. -/
def drawPicksSpec : ChangeSpec := { name := "drawPicks", fn := fun _ => fun
  | [d1, d2, d3, d4, d5] => { results := [.lit (.bool true)], args := [d1, d2, d3, d4, d5] }
  | _ => none }
def drawPicksRow : OpenClaim := { program := "ytcejokbbiinbkaadoor", sum := "f8324e1456615534c5867b7e39e32683bdf6e6817f497721cd7e33f4bb24f5c8", func := "diorama/dioramalaw05.DrawPicks", spec := "drawPicks", unfollowed := true, recurses := true, named := ["diorama/hash.roundConstants", "diorama/dioramaref02.constants"], apart := false, laid := [("diorama/dioramaref02.constants", laid_diorama_dioramaref02_constants), ("diorama/hash.roundConstants", laid_diorama_hash_roundConstants)] }
def DrawPicksSaid : Prop := drawPicksRow.holds Tryd.pinned (OpenSpec.ofChange drawPicksSpec)

/-- ITS FALSE NEIGHBOUR: 'it returns false'. Refute it at one input. -/
def drawPicksWrong : ChangeSpec := { name := "drawPicks", fn := fun _ => fun
  | [d1, d2, d3, d4, d5] => { results := [.lit (.bool false)], args := [d1, d2, d3, d4, d5] }
  | _ => none }
def DrawPicksWrongFalsely : Prop := drawPicksRow.holds Tryd.pinned (OpenSpec.ofChange drawPicksWrong)

/-- 'dioramalaw05.DrawCoins': WHATEVER THE INPUT: true; the input reads as it did. -/
def drawCoinsSpec : ChangeSpec := { name := "drawCoins", fn := fun _ => fun
  | [d1, d2, d3, d4, d5, d6] => { results := [.lit (.bool true)], args := [d1, d2, d3, d4, d5, d6] }
  | _ => none }
def drawCoinsRow : OpenClaim := { program := "ytcejokbbiinbkaadoor", sum := "f8324e1456615534c5867b7e39e32683bdf6e6817f497721cd7e33f4bb24f5c8", func := "diorama/dioramalaw05.DrawCoins", spec := "drawCoins", unfollowed := true, recurses := true, named := ["diorama/hash.roundConstants", "diorama/dioramaref02.constants"], apart := false, laid := [("diorama/dioramaref02.constants", laid_diorama_dioramaref02_constants), ("diorama/hash.roundConstants", laid_diorama_hash_roundConstants)] }
def DrawCoinsSaid : Prop := drawCoinsRow.holds Tryd.pinned (OpenSpec.ofChange drawCoinsSpec)

/-- ITS FALSE NEIGHBOUR: 'it returns false'. Refute it at one input. -/
def drawCoinsWrong : ChangeSpec := { name := "drawCoins", fn := fun _ => fun
  | [d1, d2, d3, d4, d5, d6] => { results := [.lit (.bool false)], args := [d1, d2, d3, d4, d5, d6] }
  | _ => none }
def DrawCoinsWrongFalsely : Prop := drawCoinsRow.holds Tryd.pinned (OpenSpec.ofChange drawCoinsWrong)

/-- 'dioramalaw05.DrawFair': WHATEVER THE INPUT: true; the input reads as it did. -/
def drawFairSpec : ChangeSpec := { name := "drawFair", fn := fun _ => fun
  | [d1, d2, d3] => { results := [.lit (.bool true)], args := [d1, d2, d3] }
  | _ => none }
def drawFairRow : OpenClaim := { program := "ytcejokbbiinbkaadoor", sum := "f8324e1456615534c5867b7e39e32683bdf6e6817f497721cd7e33f4bb24f5c8", func := "diorama/dioramalaw05.DrawFair", spec := "drawFair", unfollowed := true, recurses := true, named := ["diorama/hash.roundConstants"], apart := false, laid := [("diorama/hash.roundConstants", laid_diorama_hash_roundConstants)] }
def DrawFairSaid : Prop := drawFairRow.holds Tryd.pinned (OpenSpec.ofChange drawFairSpec)

/-- ITS FALSE NEIGHBOUR: 'it returns false'. Refute it at one input. -/
def drawFairWrong : ChangeSpec := { name := "drawFair", fn := fun _ => fun
  | [d1, d2, d3] => { results := [.lit (.bool false)], args := [d1, d2, d3] }
  | _ => none }
def DrawFairWrongFalsely : Prop := drawFairRow.holds Tryd.pinned (OpenSpec.ofChange drawFairWrong)

/- THE SECOND FORM. 'bulk': how many values and letters a reading holds, each counted each time it is reached (what is shared counts as often as it is met; a slice's spare places count too). A statement '..UptoSaid' is the law's where the arguments, and the package variables that the reading takes, are together of bulk at most 1048576: NARROWER than '..Said'. Prove '..Said' where nothing that the law and all that it calls make is longer than what came in: it says more and counts as full. Else prove '..UptoSaid'. A law counts once. -/
mutual
def uptoBulk {H : Type} : DataW H → Nat
  | .lit (.string bytes) => bytes.length + 1
  | .lit _ => 1
  | .nil => 1
  | .ptr d => uptoBulk d + 1
  | .slice elems spare => uptoBulkAll elems + uptoBulkAll spare + 1
  | .agg parts => uptoBulkAll parts + 1
  | .iface _ d => uptoBulk d + 1
  | .map entries => uptoBulkEntries entries + 1
  | .held _ => 1
def uptoBulkAll {H : Type} : List (DataW H) → Nat
  | [] => 0
  | d :: r => uptoBulk d + uptoBulkAll r
def uptoBulkEntries {H : Type} : List (Lit × DataW H) → Nat
  | [] => 0
  | x :: r => uptoBulkEntry x + uptoBulkEntries r
def uptoBulkEntry {H : Type} : Lit × DataW H → Nat
  | (.string bytes, d) => bytes.length + uptoBulk d + 1
  | (_, d) => uptoBulk d + 1
 end
def uptoSmall : (H : Type) → List (DataW H) → Bool := fun _ ds => decide (uptoBulkAll ds ≤ 1048576)
def OpenSpec.upto (s : _root_.Go.ChangeSpec) : _root_.Go.OpenSpec := { _root_.Go.OpenSpec.ofChange s with cond := some uptoSmall }

/-- 'dioramalaw05.DrawWords', WHERE WHAT IT READS IS OF BULK AT MOST 1048576: true; the input reads as it did. -/
def drawWordsUptoRow : OpenClaim := { program := "ytcejokbbiinbkaadoor", sum := "f8324e1456615534c5867b7e39e32683bdf6e6817f497721cd7e33f4bb24f5c8", func := "diorama/dioramalaw05.DrawWords", spec := "drawWords", unfollowed := true, recurses := true, named := ["diorama/hash.roundConstants", "diorama/dioramaref02.constants"], apart := false, laid := [("diorama/dioramaref02.constants", laid_diorama_dioramaref02_constants), ("diorama/hash.roundConstants", laid_diorama_hash_roundConstants)], narrowed := true }
def DrawWordsUptoSaid : Prop := drawWordsUptoRow.holds Tryd.pinned (OpenSpec.upto drawWordsSpec)

/-- 'dioramalaw05.DrawNums', WHERE WHAT IT READS IS OF BULK AT MOST 1048576: true; the input reads as it did. -/
def drawNumsUptoRow : OpenClaim := { program := "ytcejokbbiinbkaadoor", sum := "f8324e1456615534c5867b7e39e32683bdf6e6817f497721cd7e33f4bb24f5c8", func := "diorama/dioramalaw05.DrawNums", spec := "drawNums", unfollowed := true, recurses := true, named := ["diorama/hash.roundConstants", "diorama/dioramaref02.constants"], apart := false, laid := [("diorama/dioramaref02.constants", laid_diorama_dioramaref02_constants), ("diorama/hash.roundConstants", laid_diorama_hash_roundConstants)], narrowed := true }
def DrawNumsUptoSaid : Prop := drawNumsUptoRow.holds Tryd.pinned (OpenSpec.upto drawNumsSpec)

/-- 'dioramalaw05.DrawBetween', WHERE WHAT IT READS IS OF BULK AT MOST 1048576: true; the input reads as it did. -/
def drawBetweenUptoRow : OpenClaim := { program := "ytcejokbbiinbkaadoor", sum := "f8324e1456615534c5867b7e39e32683bdf6e6817f497721cd7e33f4bb24f5c8", func := "diorama/dioramalaw05.DrawBetween", spec := "drawBetween", unfollowed := true, recurses := true, named := ["diorama/hash.roundConstants", "diorama/dioramaref02.constants"], apart := false, laid := [("diorama/dioramaref02.constants", laid_diorama_dioramaref02_constants), ("diorama/hash.roundConstants", laid_diorama_hash_roundConstants)], narrowed := true }
def DrawBetweenUptoSaid : Prop := drawBetweenUptoRow.holds Tryd.pinned (OpenSpec.upto drawBetweenSpec)

/-- 'dioramalaw05.DrawPicks', WHERE WHAT IT READS IS OF BULK AT MOST 1048576: true; the input reads as it did. -/
def drawPicksUptoRow : OpenClaim := { program := "ytcejokbbiinbkaadoor", sum := "f8324e1456615534c5867b7e39e32683bdf6e6817f497721cd7e33f4bb24f5c8", func := "diorama/dioramalaw05.DrawPicks", spec := "drawPicks", unfollowed := true, recurses := true, named := ["diorama/hash.roundConstants", "diorama/dioramaref02.constants"], apart := false, laid := [("diorama/dioramaref02.constants", laid_diorama_dioramaref02_constants), ("diorama/hash.roundConstants", laid_diorama_hash_roundConstants)], narrowed := true }
def DrawPicksUptoSaid : Prop := drawPicksUptoRow.holds Tryd.pinned (OpenSpec.upto drawPicksSpec)

/-- 'dioramalaw05.DrawCoins', WHERE WHAT IT READS IS OF BULK AT MOST 1048576: true; the input reads as it did. -/
def drawCoinsUptoRow : OpenClaim := { program := "ytcejokbbiinbkaadoor", sum := "f8324e1456615534c5867b7e39e32683bdf6e6817f497721cd7e33f4bb24f5c8", func := "diorama/dioramalaw05.DrawCoins", spec := "drawCoins", unfollowed := true, recurses := true, named := ["diorama/hash.roundConstants", "diorama/dioramaref02.constants"], apart := false, laid := [("diorama/dioramaref02.constants", laid_diorama_dioramaref02_constants), ("diorama/hash.roundConstants", laid_diorama_hash_roundConstants)], narrowed := true }
def DrawCoinsUptoSaid : Prop := drawCoinsUptoRow.holds Tryd.pinned (OpenSpec.upto drawCoinsSpec)

/-- 'dioramalaw05.DrawFair', WHERE WHAT IT READS IS OF BULK AT MOST 1048576: true; the input reads as it did. -/
def drawFairUptoRow : OpenClaim := { program := "ytcejokbbiinbkaadoor", sum := "f8324e1456615534c5867b7e39e32683bdf6e6817f497721cd7e33f4bb24f5c8", func := "diorama/dioramalaw05.DrawFair", spec := "drawFair", unfollowed := true, recurses := true, named := ["diorama/hash.roundConstants"], apart := false, laid := [("diorama/hash.roundConstants", laid_diorama_hash_roundConstants)], narrowed := true }
def DrawFairUptoSaid : Prop := drawFairUptoRow.holds Tryd.pinned (OpenSpec.upto drawFairSpec)

end Rows
end Go.Proofs.YtcejokbbiinbkaaDoor
