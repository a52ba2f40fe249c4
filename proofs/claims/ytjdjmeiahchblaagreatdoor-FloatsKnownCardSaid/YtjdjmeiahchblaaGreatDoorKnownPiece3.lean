/-
  FloatsKnown: piece 3 of the call ends in the next picture, as the kernel reckons. No conditions.
-/
import Derived.Test.YtjdjmeiahchblaaGreatDoorKnownPics
namespace Go.Proofs.YtjdjmeiahchblaaGreatDoor
open Go.Canon
set_option maxRecDepth 1000000 in
theorem knownpiece3 : pieceB Tryz.prog 100000 18 known0.sz knownlog3 knowntodo2 knownpic2.tm (knownpic2.st) knownpic3 = true := by kernel_rfl
end Go.Proofs.YtjdjmeiahchblaaGreatDoor
