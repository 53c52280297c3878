/- A SET THAT IS NOT WRONG IS IN ITS BOUNDS. -/
import Derived.Test.YtcclepohmhdpbaaGreatDoorLaw
import Derived.Test.YtcclepohmhdpbaaGreatDoorBnDouble
namespace Go.Proofs.YtcclepohmhdpbaaGreatDoor
set_option linter.all false
open Go.RowKit Go.Deep

namespace Bn
theorem okM_of {m : Mult} (h : Pl.wrong m = 0) : okM m := by
  unfold Pl.wrong at h
  split at h
  · cases h
  · rename_i h1
    split at h
    · cases h
    · split at h
      · cases h
      · rename_i h3
        have h1' : Pl.many m = false := by simpa using h1
        have h3' : m.any Pl.wideL = false := by simpa using h3
        obtain ⟨a, b⟩ := many_bd h1'
        have c : Pl.nP m ≤ 100 := by
          unfold Pl.many at h1'
          simp at h1'
          omega
        refine ⟨by omega, fun l hl => ⟨?_, fun r hr => ⟨?_, fun p hp => ?_⟩⟩⟩
        · have : l.length ≤ Pl.nR m := le_sum_of (List.mem_map_of_mem hl)
          omega
        · have e1 : r.length ≤ Pl.nPl l := le_sum_of (List.mem_map_of_mem hr)
          have e2 : Pl.nPl l ≤ Pl.nP m := le_sum_of (List.mem_map_of_mem hl)
          omega
        · have e1 : Pl.wideL l = false := by
            have := List.any_eq_false.1 h3' l hl
            simpa using this
          have e2 : Pl.wideR r = false := by
            have := List.any_eq_false.1 e1 r hr
            simpa using this
          have e3 : Pl.wideP p = false := by
            have := List.any_eq_false.1 e2 p hp
            simpa using this
          simp [Pl.wideP, Pl.farC] at e3
          omega
end Bn
end Go.Proofs.YtcclepohmhdpbaaGreatDoor
