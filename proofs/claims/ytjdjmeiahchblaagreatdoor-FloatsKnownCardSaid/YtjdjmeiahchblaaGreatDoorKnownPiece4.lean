/-
  FloatsKnown: piece 4 of the call ends in the next picture, as the kernel reckons. No conditions.
-/
import Derived.Test.YtjdjmeiahchblaaGreatDoorKnownPics
namespace Go.Proofs.YtjdjmeiahchblaaGreatDoor
open Go.Canon
set_option maxRecDepth 1000000 in
theorem knownpiece4 : pieceB Tryz.prog 100000 18 known0.sz knownlog4 knowntodo3 knownpic3.tm (knownpic3.st) knownpic4 = true := by kernel_rfl
end Go.Proofs.YtjdjmeiahchblaaGreatDoor
