/-
  NARROWER THAN 'FOR EVERY INPUT', by the rows' own cells (each row's printed sentence says how): ShaKeeps: laid · HmacKnown: laid · HmacTags: laid · HmacSames: laid · HmacParts: laid · HmacKeys: laid · HmacKeeps: laid.
  DERIVED. THE GIVEN ROWS OF THIS SEAT. 7 by the template 'for every input the law returns true; each argument reads behind the call as it read before'; 0 by the template 'total and deterministic' (their statements: YtodbfkifendniaaDoorTotals.lean).
  GIVEN WITH THE SEED: the statements are not yours to turn. If you find one false, say at which input.
  Laid BY PROGRAM, IN A SANDBOX (cutbox-rows.mjs): the forced cells as the released guide's own fill.sh prints them over the translation deaa1a6b7028a4e6… (all of the seat's roots in one cut). By AI agents, Wed Nov 11 2026. No macro, syntax, notation, axiom, sorry.
-/
import Derived.Test.YtodbfkifendniaaDoorChecked
import GoSem.Claim
import GoSem.ClaimJoined
import GoSem.ClaimMapViews
import Derived.JoinedTies
import Derived.KernelRfl
namespace Go.Proofs.YtodbfkifendniaaDoor
/- THE CELL 'sum', in the pinned program and in every row, IS THE sha256 OF THE DUMP (.gsa) THAT YtodbfkifendniaaDoorProg.lean LOADS. Nothing in Lean hashes anything: it is a label: what it is worth is what the hold of that sum in a sandbox is worth. -/
noncomputable def Tryd.pinned : Pinned := { name := "ytodbfkifendniaadoor", sum := "deaa1a6b7028a4e634b275c760bb6593e79bfaed2d1e3ed6d9a186785b5d756b", checked := Tryd.checked }
namespace Rows
def none {H : Type} : Left H := { results := [], args := [] }

/- WHAT THE LISTED PACKAGE-LEVEL VARIABLES READ AS WHEN THE CALL BEGINS. Each datum BY PROGRAM (the guide's laid-datum.mjs) off the statement by which the dump's own 'gosem.cut.vars' lays the variable. In a bare row this is a premise. The card (YtodbfkifendniaaDoorCards.lean) ties it to the program's text. -/
def laid_tappet_sha_cubeRoots {H : Type} : DataW H := .agg [.lit (.int .u32 1116352408), .lit (.int .u32 1899447441), .lit (.int .u32 3049323471), .lit (.int .u32 3921009573), .lit (.int .u32 961987163), .lit (.int .u32 1508970993), .lit (.int .u32 2453635748), .lit (.int .u32 2870763221), .lit (.int .u32 3624381080), .lit (.int .u32 310598401), .lit (.int .u32 607225278), .lit (.int .u32 1426881987), .lit (.int .u32 1925078388), .lit (.int .u32 2162078206), .lit (.int .u32 2614888103), .lit (.int .u32 3248222580), .lit (.int .u32 3835390401), .lit (.int .u32 4022224774), .lit (.int .u32 264347078), .lit (.int .u32 604807628), .lit (.int .u32 770255983), .lit (.int .u32 1249150122), .lit (.int .u32 1555081692), .lit (.int .u32 1996064986), .lit (.int .u32 2554220882), .lit (.int .u32 2821834349), .lit (.int .u32 2952996808), .lit (.int .u32 3210313671), .lit (.int .u32 3336571891), .lit (.int .u32 3584528711), .lit (.int .u32 113926993), .lit (.int .u32 338241895), .lit (.int .u32 666307205), .lit (.int .u32 773529912), .lit (.int .u32 1294757372), .lit (.int .u32 1396182291), .lit (.int .u32 1695183700), .lit (.int .u32 1986661051), .lit (.int .u32 2177026350), .lit (.int .u32 2456956037), .lit (.int .u32 2730485921), .lit (.int .u32 2820302411), .lit (.int .u32 3259730800), .lit (.int .u32 3345764771), .lit (.int .u32 3516065817), .lit (.int .u32 3600352804), .lit (.int .u32 4094571909), .lit (.int .u32 275423344), .lit (.int .u32 430227734), .lit (.int .u32 506948616), .lit (.int .u32 659060556), .lit (.int .u32 883997877), .lit (.int .u32 958139571), .lit (.int .u32 1322822218), .lit (.int .u32 1537002063), .lit (.int .u32 1747873779), .lit (.int .u32 1955562222), .lit (.int .u32 2024104815), .lit (.int .u32 2227730452), .lit (.int .u32 2361852424), .lit (.int .u32 2428436474), .lit (.int .u32 2756734187), .lit (.int .u32 3204031479), .lit (.int .u32 3329325298)]

/-- 'tappetlaw02.ShaKeeps': WHATEVER THE INPUT: true; the input reads as it did. -/
def shaKeepsSpec : ChangeSpec := { name := "shaKeeps", fn := fun _ => fun
  | [d1, d2] => { results := [.lit (.bool true)], args := [d1, d2] }
  | _ => none }
def shaKeepsRow : OpenClaim := { program := "ytodbfkifendniaadoor", sum := "deaa1a6b7028a4e634b275c760bb6593e79bfaed2d1e3ed6d9a186785b5d756b", func := "tappet/tappetlaw02.ShaKeeps", spec := "shaKeeps", unfollowed := true, recurses := true, named := ["tappet/sha.cubeRoots"], apart := false, laid := [("tappet/sha.cubeRoots", laid_tappet_sha_cubeRoots)] }
def ShaKeepsSaid : Prop := shaKeepsRow.holds Tryd.pinned (OpenSpec.ofChange shaKeepsSpec)

/-- ITS FALSE NEIGHBOUR: 'it returns false'. Refute it at one input. -/
def shaKeepsWrong : ChangeSpec := { name := "shaKeeps", fn := fun _ => fun
  | [d1, d2] => { results := [.lit (.bool false)], args := [d1, d2] }
  | _ => none }
def ShaKeepsWrongFalsely : Prop := shaKeepsRow.holds Tryd.pinned (OpenSpec.ofChange shaKeepsWrong)

/-- 'tappetlaw03.HmacKnown': WHATEVER THE INPUT: true; the input reads as it did. -/
def hmacKnownSpec : ChangeSpec := { name := "hmacKnown", fn := fun _ => fun
  | [] => { results := [.lit (.bool true)], args := [] }
  | _ => none }
def hmacKnownRow : OpenClaim := { program := "ytodbfkifendniaadoor", sum := "deaa1a6b7028a4e634b275c760bb6593e79bfaed2d1e3ed6d9a186785b5d756b", func := "tappet/tappetlaw03.HmacKnown", spec := "hmacKnown", unfollowed := true, recurses := true, named := ["tappet/sha.cubeRoots"], apart := false, laid := [("tappet/sha.cubeRoots", laid_tappet_sha_cubeRoots)] }
def HmacKnownSaid : Prop := hmacKnownRow.holds Tryd.pinned (OpenSpec.ofChange hmacKnownSpec)

/-- ITS FALSE NEIGHBOUR: 'it returns false'. Refute it at one input. -/
def hmacKnownWrong : ChangeSpec := { name := "hmacKnown", fn := fun _ => fun
  | [] => { results := [.lit (.bool false)], args := [] }
  | _ => none }
def HmacKnownWrongFalsely : Prop := hmacKnownRow.holds Tryd.pinned (OpenSpec.ofChange hmacKnownWrong)

/-- 'tappetlaw03.HmacTags': WHATEVER THE INPUT: true; the input reads as it did. -/
def hmacTagsSpec : ChangeSpec := { name := "hmacTags", fn := fun _ => fun
  | [d1, d2] => { results := [.lit (.bool true)], args := [d1, d2] }
  | _ => none }
def hmacTagsRow : OpenClaim := { program := "ytodbfkifendniaadoor", sum := "deaa1a6b7028a4e634b275c760bb6593e79bfaed2d1e3ed6d9a186785b5d756b", func := "tappet/tappetlaw03.HmacTags", spec := "hmacTags", unfollowed := true, recurses := true, named := ["tappet/sha.cubeRoots"], apart := false, laid := [("tappet/sha.cubeRoots", laid_tappet_sha_cubeRoots)] }
def HmacTagsSaid : Prop := hmacTagsRow.holds Tryd.pinned (OpenSpec.ofChange hmacTagsSpec)

/-- ITS FALSE NEIGHBOUR: 'it returns false'. Refute it at one input. -/
def hmacTagsWrong : ChangeSpec := { name := "hmacTags", fn := fun _ => fun
  | [d1, d2] => { results := [.lit (.bool false)], args := [d1, d2] }
  | _ => none }
def HmacTagsWrongFalsely : Prop := hmacTagsRow.holds Tryd.pinned (OpenSpec.ofChange hmacTagsWrong)

/-- 'tappetlaw03.HmacSames': WHATEVER THE INPUT: true; the input reads as it did. -/
def hmacSamesSpec : ChangeSpec := { name := "hmacSames", fn := fun _ => fun
  | [d1, d2] => { results := [.lit (.bool true)], args := [d1, d2] }
  | _ => none }
def hmacSamesRow : OpenClaim := { program := "ytodbfkifendniaadoor", sum := "deaa1a6b7028a4e634b275c760bb6593e79bfaed2d1e3ed6d9a186785b5d756b", func := "tappet/tappetlaw03.HmacSames", spec := "hmacSames", unfollowed := true, recurses := true, named := ["tappet/sha.cubeRoots"], apart := false, laid := [("tappet/sha.cubeRoots", laid_tappet_sha_cubeRoots)] }
def HmacSamesSaid : Prop := hmacSamesRow.holds Tryd.pinned (OpenSpec.ofChange hmacSamesSpec)

/-- ITS FALSE NEIGHBOUR: 'it returns false'. Refute it at one input. -/
def hmacSamesWrong : ChangeSpec := { name := "hmacSames", fn := fun _ => fun
  | [d1, d2] => { results := [.lit (.bool false)], args := [d1, d2] }
  | _ => none }
def HmacSamesWrongFalsely : Prop := hmacSamesRow.holds Tryd.pinned (OpenSpec.ofChange hmacSamesWrong)

/-- 'tappetlaw03.HmacParts': WHATEVER THE INPUT: true; the input reads as it did. -/
def hmacPartsSpec : ChangeSpec := { name := "hmacParts", fn := fun _ => fun
  | [d1, d2, d3, d4] => { results := [.lit (.bool true)], args := [d1, d2, d3, d4] }
  | _ => none }
def hmacPartsRow : OpenClaim := { program := "ytodbfkifendniaadoor", sum := "deaa1a6b7028a4e634b275c760bb6593e79bfaed2d1e3ed6d9a186785b5d756b", func := "tappet/tappetlaw03.HmacParts", spec := "hmacParts", unfollowed := true, recurses := true, named := ["tappet/sha.cubeRoots"], apart := false, laid := [("tappet/sha.cubeRoots", laid_tappet_sha_cubeRoots)] }
def HmacPartsSaid : Prop := hmacPartsRow.holds Tryd.pinned (OpenSpec.ofChange hmacPartsSpec)

/-- ITS FALSE NEIGHBOUR: 'it returns false'. Refute it at one input. -/
def hmacPartsWrong : ChangeSpec := { name := "hmacParts", fn := fun _ => fun
  | [d1, d2, d3, d4] => { results := [.lit (.bool false)], args := [d1, d2, d3, d4] }
  | _ => none }
def HmacPartsWrongFalsely : Prop := hmacPartsRow.holds Tryd.pinned (OpenSpec.ofChange hmacPartsWrong)

/-- 'tappetlaw03.HmacKeys': WHATEVER THE INPUT: true; the input reads as it did. -/
def hmacKeysSpec : ChangeSpec := { name := "hmacKeys", fn := fun _ => fun
  | [d1, d2, d3] => { results := [.lit (.bool true)], args := [d1, d2, d3] }
  | _ => none }
def hmacKeysRow : OpenClaim := { program := "ytodbfkifendniaadoor", sum := "deaa1a6b7028a4e634b275c760bb6593e79bfaed2d1e3ed6d9a186785b5d756b", func := "tappet/tappetlaw03.HmacKeys", spec := "hmacKeys", unfollowed := true, recurses := true, named := ["tappet/sha.cubeRoots"], apart := false, laid := [("tappet/sha.cubeRoots", laid_tappet_sha_cubeRoots)] }
def HmacKeysSaid : Prop := hmacKeysRow.holds Tryd.pinned (OpenSpec.ofChange hmacKeysSpec)

/-- ITS FALSE NEIGHBOUR: 'it returns false'. Refute it at one input. -/
def hmacKeysWrong : ChangeSpec := { name := "hmacKeys", fn := fun _ => fun
  | [d1, d2, d3] => { results := [.lit (.bool false)], args := [d1, d2, d3] }
  | _ => none }
def HmacKeysWrongFalsely : Prop := hmacKeysRow.holds Tryd.pinned (OpenSpec.ofChange hmacKeysWrong)

/-- 'tappetlaw03.HmacKeeps': WHATEVER THE INPUT: true; the input reads as it did. -/
def hmacKeepsSpec : ChangeSpec := { name := "hmacKeeps", fn := fun _ => fun
  | [d1, d2, d3] => { results := [.lit (.bool true)], args := [d1, d2, d3] }
  | _ => none }
def hmacKeepsRow : OpenClaim := { program := "ytodbfkifendniaadoor", sum := "deaa1a6b7028a4e634b275c760bb6593e79bfaed2d1e3ed6d9a186785b5d756b", func := "tappet/tappetlaw03.HmacKeeps", spec := "hmacKeeps", unfollowed := true, recurses := true, named := ["tappet/sha.cubeRoots"], apart := false, laid := [("tappet/sha.cubeRoots", laid_tappet_sha_cubeRoots)] }
def HmacKeepsSaid : Prop := hmacKeepsRow.holds Tryd.pinned (OpenSpec.ofChange hmacKeepsSpec)

/-- ITS FALSE NEIGHBOUR: 'it returns false'. Refute it at one input. -/
def hmacKeepsWrong : ChangeSpec := { name := "hmacKeeps", fn := fun _ => fun
  | [d1, d2, d3] => { results := [.lit (.bool false)], args := [d1, d2, d3] }
  | _ => none }
def HmacKeepsWrongFalsely : Prop := hmacKeepsRow.holds Tryd.pinned (OpenSpec.ofChange hmacKeepsWrong)

/- THE SECOND FORM. 'bulk': how many values and letters a reading holds, each counted each time it is reached (what is shared counts as often as it is met; a slice's spare places count too). A statement '..UptoSaid' is the law's where the arguments, and the package variables that the reading takes, are together of bulk at most 1048576: NARROWER than '..Said'. Prove '..Said' where nothing that the law and all that it calls make is longer than what came in: it says more and counts as full. Else prove '..UptoSaid'. A law counts once. -/
mutual
def uptoBulk {H : Type} : DataW H → Nat
  | .lit (.string bytes) => bytes.length + 1
  | .lit _ => 1
  | .nil => 1
  | .ptr d => uptoBulk d + 1
  | .slice elems spare => uptoBulkAll elems + uptoBulkAll spare + 1
  | .agg parts => uptoBulkAll parts + 1
  | .iface _ d => uptoBulk d + 1
  | .map entries => uptoBulkEntries entries + 1
  | .held _ => 1
def uptoBulkAll {H : Type} : List (DataW H) → Nat
  | [] => 0
  | d :: r => uptoBulk d + uptoBulkAll r
def uptoBulkEntries {H : Type} : List (Lit × DataW H) → Nat
  | [] => 0
  | x :: r => uptoBulkEntry x + uptoBulkEntries r
def uptoBulkEntry {H : Type} : Lit × DataW H → Nat
  | (.string bytes, d) => bytes.length + uptoBulk d + 1
  | (_, d) => uptoBulk d + 1
 end
def uptoSmall : (H : Type) → List (DataW H) → Bool := fun _ ds => decide (uptoBulkAll ds ≤ 1048576)
def OpenSpec.upto (s : _root_.Go.ChangeSpec) : _root_.Go.OpenSpec := { _root_.Go.OpenSpec.ofChange s with cond := some uptoSmall }

/-- 'tappetlaw02.ShaKeeps', WHERE WHAT IT READS IS OF BULK AT MOST 1048576: true; the input reads as it did. -/
def shaKeepsUptoRow : OpenClaim := { program := "ytodbfkifendniaadoor", sum := "deaa1a6b7028a4e634b275c760bb6593e79bfaed2d1e3ed6d9a186785b5d756b", func := "tappet/tappetlaw02.ShaKeeps", spec := "shaKeeps", unfollowed := true, recurses := true, named := ["tappet/sha.cubeRoots"], apart := false, laid := [("tappet/sha.cubeRoots", laid_tappet_sha_cubeRoots)], narrowed := true }
def ShaKeepsUptoSaid : Prop := shaKeepsUptoRow.holds Tryd.pinned (OpenSpec.upto shaKeepsSpec)

/-- 'tappetlaw03.HmacKnown', WHERE WHAT IT READS IS OF BULK AT MOST 1048576: true; the input reads as it did. -/
def hmacKnownUptoRow : OpenClaim := { program := "ytodbfkifendniaadoor", sum := "deaa1a6b7028a4e634b275c760bb6593e79bfaed2d1e3ed6d9a186785b5d756b", func := "tappet/tappetlaw03.HmacKnown", spec := "hmacKnown", unfollowed := true, recurses := true, named := ["tappet/sha.cubeRoots"], apart := false, laid := [("tappet/sha.cubeRoots", laid_tappet_sha_cubeRoots)], narrowed := true }
def HmacKnownUptoSaid : Prop := hmacKnownUptoRow.holds Tryd.pinned (OpenSpec.upto hmacKnownSpec)

/-- 'tappetlaw03.HmacTags', WHERE WHAT IT READS IS OF BULK AT MOST 1048576: true; the input reads as it did. -/
def hmacTagsUptoRow : OpenClaim := { program := "ytodbfkifendniaadoor", sum := "deaa1a6b7028a4e634b275c760bb6593e79bfaed2d1e3ed6d9a186785b5d756b", func := "tappet/tappetlaw03.HmacTags", spec := "hmacTags", unfollowed := true, recurses := true, named := ["tappet/sha.cubeRoots"], apart := false, laid := [("tappet/sha.cubeRoots", laid_tappet_sha_cubeRoots)], narrowed := true }
def HmacTagsUptoSaid : Prop := hmacTagsUptoRow.holds Tryd.pinned (OpenSpec.upto hmacTagsSpec)

/-- 'tappetlaw03.HmacSames', WHERE WHAT IT READS IS OF BULK AT MOST 1048576: true; the input reads as it did. -/
def hmacSamesUptoRow : OpenClaim := { program := "ytodbfkifendniaadoor", sum := "deaa1a6b7028a4e634b275c760bb6593e79bfaed2d1e3ed6d9a186785b5d756b", func := "tappet/tappetlaw03.HmacSames", spec := "hmacSames", unfollowed := true, recurses := true, named := ["tappet/sha.cubeRoots"], apart := false, laid := [("tappet/sha.cubeRoots", laid_tappet_sha_cubeRoots)], narrowed := true }
def HmacSamesUptoSaid : Prop := hmacSamesUptoRow.holds Tryd.pinned (OpenSpec.upto hmacSamesSpec)

/-- 'tappetlaw03.HmacParts', WHERE WHAT IT READS IS OF BULK AT MOST 1048576: true; the input reads as it did. -/
def hmacPartsUptoRow : OpenClaim := { program := "ytodbfkifendniaadoor", sum := "deaa1a6b7028a4e634b275c760bb6593e79bfaed2d1e3ed6d9a186785b5d756b", func := "tappet/tappetlaw03.HmacParts", spec := "hmacParts", unfollowed := true, recurses := true, named := ["tappet/sha.cubeRoots"], apart := false, laid := [("tappet/sha.cubeRoots", laid_tappet_sha_cubeRoots)], narrowed := true }
def HmacPartsUptoSaid : Prop := hmacPartsUptoRow.holds Tryd.pinned (OpenSpec.upto hmacPartsSpec)

/-- 'tappetlaw03.HmacKeys', WHERE WHAT IT READS IS OF BULK AT MOST 1048576: true; the input reads as it did. -/
def hmacKeysUptoRow : OpenClaim := { program := "ytodbfkifendniaadoor", sum := "deaa1a6b7028a4e634b275c760bb6593e79bfaed2d1e3ed6d9a186785b5d756b", func := "tappet/tappetlaw03.HmacKeys", spec := "hmacKeys", unfollowed := true, recurses := true, named := ["tappet/sha.cubeRoots"], apart := false, laid := [("tappet/sha.cubeRoots", laid_tappet_sha_cubeRoots)], narrowed := true }
def HmacKeysUptoSaid : Prop := hmacKeysUptoRow.holds Tryd.pinned (OpenSpec.upto hmacKeysSpec)

/-- 'tappetlaw03.HmacKeeps', WHERE WHAT IT READS IS OF BULK AT MOST 1048576: true; the input reads as it did. -/
def hmacKeepsUptoRow : OpenClaim := { program := "ytodbfkifendniaadoor", sum := "deaa1a6b7028a4e634b275c760bb6593e79bfaed2d1e3ed6d9a186785b5d756b", func := "tappet/tappetlaw03.HmacKeeps", spec := "hmacKeeps", unfollowed := true, recurses := true, named := ["tappet/sha.cubeRoots"], apart := false, laid := [("tappet/sha.cubeRoots", laid_tappet_sha_cubeRoots)], narrowed := true }
def HmacKeepsUptoSaid : Prop := hmacKeepsUptoRow.holds Tryd.pinned (OpenSpec.upto hmacKeepsSpec)

end Rows
end Go.Proofs.YtodbfkifendniaaDoor
