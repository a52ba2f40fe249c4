/-
  FloatsKnown: piece 7 of the call ends in the next picture, as the kernel reckons. No conditions.
-/
import Derived.Test.YtjdjmeiahchblaaGreatDoorKnownPics
namespace Go.Proofs.YtjdjmeiahchblaaGreatDoor
open Go.Canon
set_option maxRecDepth 1000000 in
theorem knownpiece7 : pieceB Tryz.prog 100000 18 known0.sz knownlog7 knowntodo6 knownpic6.tm (knownpic6.st) knownpic7 = true := by kernel_rfl
end Go.Proofs.YtjdjmeiahchblaaGreatDoor
