/- What the law of many keys does, reckoned: 60 to 69. No condition. -/
import Derived.Test.YtaophiknldkfdaaGreatDoorTreeMn
namespace Go.Proofs.YtaophiknldkfdaaGreatDoor
theorem many_v60 : manyQ KM keyM noM (20 + 13 * 60 % 80) (byM (60 % 5)) = true := by decide +kernel
theorem many_v61 : manyQ KM keyM noM (20 + 13 * 61 % 80) (byM (61 % 5)) = true := by decide +kernel
theorem many_v62 : manyQ KM keyM noM (20 + 13 * 62 % 80) (byM (62 % 5)) = true := by decide +kernel
theorem many_v63 : manyQ KM keyM noM (20 + 13 * 63 % 80) (byM (63 % 5)) = true := by decide +kernel
theorem many_v64 : manyQ KM keyM noM (20 + 13 * 64 % 80) (byM (64 % 5)) = true := by decide +kernel
theorem many_v65 : manyQ KM keyM noM (20 + 13 * 65 % 80) (byM (65 % 5)) = true := by decide +kernel
theorem many_v66 : manyQ KM keyM noM (20 + 13 * 66 % 80) (byM (66 % 5)) = true := by decide +kernel
theorem many_v67 : manyQ KM keyM noM (20 + 13 * 67 % 80) (byM (67 % 5)) = true := by decide +kernel
theorem many_v68 : manyQ KM keyM noM (20 + 13 * 68 % 80) (byM (68 % 5)) = true := by decide +kernel
theorem many_v69 : manyQ KM keyM noM (20 + 13 * 69 % 80) (byM (69 % 5)) = true := by decide +kernel
theorem many_t6 : ∀ j, 60 ≤ j → j < 70 → manyQ KM keyM noM (20 + 13 * j % 80) (byM (j % 5)) = true := by
  intro j h1 h2
  obtain h | h | h | h | h | h | h | h | h | h : j = 60 ∨ j = 61 ∨ j = 62 ∨ j = 63 ∨ j = 64 ∨ j = 65 ∨ j = 66 ∨ j = 67 ∨ j = 68 ∨ j = 69 := by omega
  · rw [h]; exact many_v60
  · rw [h]; exact many_v61
  · rw [h]; exact many_v62
  · rw [h]; exact many_v63
  · rw [h]; exact many_v64
  · rw [h]; exact many_v65
  · rw [h]; exact many_v66
  · rw [h]; exact many_v67
  · rw [h]; exact many_v68
  · rw [h]; exact many_v69
end Go.Proofs.YtaophiknldkfdaaGreatDoor
/- What the law of many keys does, reckoned: 70 to 79. No condition. -/
namespace Go.Proofs.YtaophiknldkfdaaGreatDoor
theorem many_v70 : manyQ KM keyM noM (20 + 13 * 70 % 80) (byM (70 % 5)) = true := by decide +kernel
theorem many_v71 : manyQ KM keyM noM (20 + 13 * 71 % 80) (byM (71 % 5)) = true := by decide +kernel
theorem many_v72 : manyQ KM keyM noM (20 + 13 * 72 % 80) (byM (72 % 5)) = true := by decide +kernel
theorem many_v73 : manyQ KM keyM noM (20 + 13 * 73 % 80) (byM (73 % 5)) = true := by decide +kernel
theorem many_v74 : manyQ KM keyM noM (20 + 13 * 74 % 80) (byM (74 % 5)) = true := by decide +kernel
theorem many_v75 : manyQ KM keyM noM (20 + 13 * 75 % 80) (byM (75 % 5)) = true := by decide +kernel
theorem many_v76 : manyQ KM keyM noM (20 + 13 * 76 % 80) (byM (76 % 5)) = true := by decide +kernel
theorem many_v77 : manyQ KM keyM noM (20 + 13 * 77 % 80) (byM (77 % 5)) = true := by decide +kernel
theorem many_v78 : manyQ KM keyM noM (20 + 13 * 78 % 80) (byM (78 % 5)) = true := by decide +kernel
theorem many_v79 : manyQ KM keyM noM (20 + 13 * 79 % 80) (byM (79 % 5)) = true := by decide +kernel
theorem many_t7 : ∀ j, 70 ≤ j → j < 80 → manyQ KM keyM noM (20 + 13 * j % 80) (byM (j % 5)) = true := by
  intro j h1 h2
  obtain h | h | h | h | h | h | h | h | h | h : j = 70 ∨ j = 71 ∨ j = 72 ∨ j = 73 ∨ j = 74 ∨ j = 75 ∨ j = 76 ∨ j = 77 ∨ j = 78 ∨ j = 79 := by omega
  · rw [h]; exact many_v70
  · rw [h]; exact many_v71
  · rw [h]; exact many_v72
  · rw [h]; exact many_v73
  · rw [h]; exact many_v74
  · rw [h]; exact many_v75
  · rw [h]; exact many_v76
  · rw [h]; exact many_v77
  · rw [h]; exact many_v78
  · rw [h]; exact many_v79
end Go.Proofs.YtaophiknldkfdaaGreatDoor
