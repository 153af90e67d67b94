/- What the law of many keys does, reckoned: 40 to 49. No condition. -/
import Derived.Test.YtaophiknldkfdaaGreatDoorTreeMn
namespace Go.Proofs.YtaophiknldkfdaaGreatDoor
theorem many_v40 : manyQ KM keyM noM (20 + 13 * 40 % 80) (byM (40 % 5)) = true := by decide +kernel
theorem many_v41 : manyQ KM keyM noM (20 + 13 * 41 % 80) (byM (41 % 5)) = true := by decide +kernel
theorem many_v42 : manyQ KM keyM noM (20 + 13 * 42 % 80) (byM (42 % 5)) = true := by decide +kernel
theorem many_v43 : manyQ KM keyM noM (20 + 13 * 43 % 80) (byM (43 % 5)) = true := by decide +kernel
theorem many_v44 : manyQ KM keyM noM (20 + 13 * 44 % 80) (byM (44 % 5)) = true := by decide +kernel
theorem many_v45 : manyQ KM keyM noM (20 + 13 * 45 % 80) (byM (45 % 5)) = true := by decide +kernel
theorem many_v46 : manyQ KM keyM noM (20 + 13 * 46 % 80) (byM (46 % 5)) = true := by decide +kernel
theorem many_v47 : manyQ KM keyM noM (20 + 13 * 47 % 80) (byM (47 % 5)) = true := by decide +kernel
theorem many_v48 : manyQ KM keyM noM (20 + 13 * 48 % 80) (byM (48 % 5)) = true := by decide +kernel
theorem many_v49 : manyQ KM keyM noM (20 + 13 * 49 % 80) (byM (49 % 5)) = true := by decide +kernel
theorem many_t4 : ∀ j, 40 ≤ j → j < 50 → manyQ KM keyM noM (20 + 13 * j % 80) (byM (j % 5)) = true := by
  intro j h1 h2
  obtain h | h | h | h | h | h | h | h | h | h : j = 40 ∨ j = 41 ∨ j = 42 ∨ j = 43 ∨ j = 44 ∨ j = 45 ∨ j = 46 ∨ j = 47 ∨ j = 48 ∨ j = 49 := by omega
  · rw [h]; exact many_v40
  · rw [h]; exact many_v41
  · rw [h]; exact many_v42
  · rw [h]; exact many_v43
  · rw [h]; exact many_v44
  · rw [h]; exact many_v45
  · rw [h]; exact many_v46
  · rw [h]; exact many_v47
  · rw [h]; exact many_v48
  · rw [h]; exact many_v49
end Go.Proofs.YtaophiknldkfdaaGreatDoor
/- What the law of many keys does, reckoned: 50 to 59. No condition. -/
namespace Go.Proofs.YtaophiknldkfdaaGreatDoor
theorem many_v50 : manyQ KM keyM noM (20 + 13 * 50 % 80) (byM (50 % 5)) = true := by decide +kernel
theorem many_v51 : manyQ KM keyM noM (20 + 13 * 51 % 80) (byM (51 % 5)) = true := by decide +kernel
theorem many_v52 : manyQ KM keyM noM (20 + 13 * 52 % 80) (byM (52 % 5)) = true := by decide +kernel
theorem many_v53 : manyQ KM keyM noM (20 + 13 * 53 % 80) (byM (53 % 5)) = true := by decide +kernel
theorem many_v54 : manyQ KM keyM noM (20 + 13 * 54 % 80) (byM (54 % 5)) = true := by decide +kernel
theorem many_v55 : manyQ KM keyM noM (20 + 13 * 55 % 80) (byM (55 % 5)) = true := by decide +kernel
theorem many_v56 : manyQ KM keyM noM (20 + 13 * 56 % 80) (byM (56 % 5)) = true := by decide +kernel
theorem many_v57 : manyQ KM keyM noM (20 + 13 * 57 % 80) (byM (57 % 5)) = true := by decide +kernel
theorem many_v58 : manyQ KM keyM noM (20 + 13 * 58 % 80) (byM (58 % 5)) = true := by decide +kernel
theorem many_v59 : manyQ KM keyM noM (20 + 13 * 59 % 80) (byM (59 % 5)) = true := by decide +kernel
theorem many_t5 : ∀ j, 50 ≤ j → j < 60 → manyQ KM keyM noM (20 + 13 * j % 80) (byM (j % 5)) = true := by
  intro j h1 h2
  obtain h | h | h | h | h | h | h | h | h | h : j = 50 ∨ j = 51 ∨ j = 52 ∨ j = 53 ∨ j = 54 ∨ j = 55 ∨ j = 56 ∨ j = 57 ∨ j = 58 ∨ j = 59 := by omega
  · rw [h]; exact many_v50
  · rw [h]; exact many_v51
  · rw [h]; exact many_v52
  · rw [h]; exact many_v53
  · rw [h]; exact many_v54
  · rw [h]; exact many_v55
  · rw [h]; exact many_v56
  · rw [h]; exact many_v57
  · rw [h]; exact many_v58
  · rw [h]; exact many_v59
end Go.Proofs.YtaophiknldkfdaaGreatDoor
