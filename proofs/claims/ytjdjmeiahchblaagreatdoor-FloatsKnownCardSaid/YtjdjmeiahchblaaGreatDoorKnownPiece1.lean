/-
  FloatsKnown: piece 1 of the call ends in the next picture, as the kernel reckons. No conditions.
-/
import Derived.Test.YtjdjmeiahchblaaGreatDoorKnownPics
namespace Go.Proofs.YtjdjmeiahchblaaGreatDoor
open Go.Canon
set_option maxRecDepth 1000000 in
theorem knownpiece1 : pieceB Tryz.prog 100000 18 known0.sz knownlog1 knowntodo0 known0.tm (roState rows0 18) knownpic1 = true := by kernel_rfl
end Go.Proofs.YtjdjmeiahchblaaGreatDoor
