/-
  FloatsKnown: piece 8 of the call ends in the next picture, as the kernel reckons. No conditions.
-/
import Derived.Test.YtjdjmeiahchblaaGreatDoorKnownPics
namespace Go.Proofs.YtjdjmeiahchblaaGreatDoor
open Go.Canon
set_option maxRecDepth 1000000 in
theorem knownpiece8 : lastB Tryz.prog 100000 18 8 known0.sz knowntodo7 knownpic7.tm (knownpic7.st) = true := by kernel_rfl
end Go.Proofs.YtjdjmeiahchblaaGreatDoor
