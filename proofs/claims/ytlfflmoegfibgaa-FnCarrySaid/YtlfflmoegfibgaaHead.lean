import Derived.Test.YtlfflmoegfibgaaTab
import Derived.Test.YtlfflmoegfibgaaVLHead
import Derived.ProofKit
/-! The head of the translation names the seat's roots and says that the cut was made; what it says is worked out here from its first three words. -/
namespace Go.Proofs.Ytlfflmoegfibgaa
open Go.VL Go.RowKit
set_option maxRecDepth 100000
theorem headWords : ∃ R, wordsSigns Try.prog.initOrder.toList = (initCodes.take 7).map Char.ofNat :: ((initCodes.drop 8).take 64).map Char.ofNat :: ((initCodes.drop 73).take 3).map Char.ofNat :: R := by
  refine ⟨wordsSigns ((initCodes.drop 77).map Char.ofNat), ?_⟩
  rw [initWords]
  rw [wordsSigns_codes (l := initCodes) (a := initCodes.take 7) (r := initCodes.drop 8) (by kernel_rfl) (by kernel_rfl)]
  rw [wordsSigns_codes (l := initCodes.drop 8) (a := (initCodes.drop 8).take 64) (r := initCodes.drop 73) (by kernel_rfl) (by kernel_rfl)]
  rw [wordsSigns_codes (l := initCodes.drop 73) (a := (initCodes.drop 73).take 3) (r := initCodes.drop 77) (by kernel_rfl) (by kernel_rfl)]
theorem headCut : ∃ R, behindMainWord (wordsSigns Try.prog.initOrder.toList) = cutW :: R := by
  obtain ⟨R, hR⟩ := headWords
  refine ⟨R, ?_⟩
  rw [hR, behind_of (by kernel_rfl)]
  rw [show ((initCodes.drop 73).take 3).map Char.ofNat = cutW from by kernel_rfl]
theorem lifts : Try.prog.liftsFinal = false := by
  obtain ⟨R, hR⟩ := headCut
  exact liftsFinal_of_cut hR
theorem made : Try.prog.make = some .cut := by
  obtain ⟨R, hR⟩ := headCut
  exact make_of_cut hR
theorem later : Try.prog.laysLater = false := by kernel_rfl
theorem reflects : Try.prog.bearsReflect = false := by kernel_rfl
theorem doorFit : Try.prog.doorFits [] = true := by kernel_rfl
theorem enters : Try.prog.mayEnter = true := by
  obtain ⟨R, hR⟩ := headCut
  exact mayEnter_of_cut hR later reflects doorFit
theorem own : ownKnob Try.prog.godebug = none := by kernel_rfl
theorem laidOut : laidOutB Try.prog = true := by kernel_rfl
theorem mapsRow : mapsRowed Try.prog = true := by kernel_rfl
theorem heard : Try.prog.stopsHeard = true := by kernel_rfl
theorem andT {a b : Bool} (ha : a = true) (hb : b = true) : (a && b) = true := by rw [ha, hb]; rfl
theorem beqT {α : Type} [BEq α] [ReflBEq α] {a b : α} (h : a = b) : (a == b) = true := by rw [h]; exact BEq.rfl
end Go.Proofs.Ytlfflmoegfibgaa