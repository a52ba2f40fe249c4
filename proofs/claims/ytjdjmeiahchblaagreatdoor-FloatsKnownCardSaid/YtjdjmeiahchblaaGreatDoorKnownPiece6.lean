/-
  FloatsKnown: piece 6 of the call ends in the next picture, as the kernel reckons. No conditions.
-/
import Derived.Test.YtjdjmeiahchblaaGreatDoorKnownPics
namespace Go.Proofs.YtjdjmeiahchblaaGreatDoor
open Go.Canon
set_option maxRecDepth 1000000 in
theorem knownpiece6 : pieceB Tryz.prog 100000 18 known0.sz knownlog6 knowntodo5 knownpic5.tm (knownpic5.st) knownpic6 = true := by kernel_rfl
end Go.Proofs.YtjdjmeiahchblaaGreatDoor
