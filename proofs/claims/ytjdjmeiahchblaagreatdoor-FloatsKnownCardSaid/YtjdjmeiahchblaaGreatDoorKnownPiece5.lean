/-
  FloatsKnown: piece 5 of the call ends in the next picture, as the kernel reckons. No conditions.
-/
import Derived.Test.YtjdjmeiahchblaaGreatDoorKnownPics
namespace Go.Proofs.YtjdjmeiahchblaaGreatDoor
open Go.Canon
set_option maxRecDepth 1000000 in
theorem knownpiece5 : pieceB Tryz.prog 100000 18 known0.sz knownlog5 knowntodo4 knownpic4.tm (knownpic4.st) knownpic5 = true := by kernel_rfl
end Go.Proofs.YtjdjmeiahchblaaGreatDoor
