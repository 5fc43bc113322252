import Derived.Test.YtejcfkkkbnnmcaaGreatDoorJE
import Derived.Test.YtejcfkkkbnnmcaaGreatDoorRclA
import Derived.Test.YtejcfkkkbnnmcaaGreatDoorSamA
import Derived.Test.YtejcfkkkbnnmcaaGreatDoorChkE
import Derived.Test.YtejcfkkkbnnmcaaGreatDoorRfE
/- all that the pointer's texts want of the value's -/
namespace Go.Proofs.YtejcfkkkbnnmcaaGreatDoor
theorem topv : True := by
  have h1 := @check_any
  have h2 := @check_wide
  have h3 := @rcheck_any
  have h4 := @beyond_any
  have h5 := @same_any
  have h6 := @rcl_any
  have h7 := @clone_any
  have h8 := @find_any
  have h9 := @srt_rise
  have h10 := @open_all
  have h11 := @V.eqB_refl
  have h12 := @lies_S
  have h13 := @lies_set6A
  have h14 := @Below.set6
  have h15 := @chkV_allG
  have h16 := @wt_of_chk
  have h17 := @sub_call
  have h18 := @results_cell1
  have h19 := @grown_of_below
  trivial
end Go.Proofs.YtejcfkkkbnnmcaaGreatDoor
