/-
  FloatsKnown: piece 2 of the call ends in the next picture, as the kernel reckons. No conditions.
-/
import Derived.Test.YtjdjmeiahchblaaGreatDoorKnownPics
namespace Go.Proofs.YtjdjmeiahchblaaGreatDoor
open Go.Canon
set_option maxRecDepth 1000000 in
theorem knownpiece2 : pieceB Tryz.prog 100000 18 known0.sz knownlog2 knowntodo1 knownpic1.tm (knownpic1.st) knownpic2 = true := by kernel_rfl
end Go.Proofs.YtjdjmeiahchblaaGreatDoor
