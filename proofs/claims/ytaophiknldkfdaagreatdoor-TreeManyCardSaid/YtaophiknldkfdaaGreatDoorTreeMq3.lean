/- What the law of many keys does, reckoned: 20 to 29. No condition. -/
import Derived.Test.YtaophiknldkfdaaGreatDoorTreeMn
namespace Go.Proofs.YtaophiknldkfdaaGreatDoor
theorem many_v20 : manyQ KM keyM noM (20 + 13 * 20 % 80) (byM (20 % 5)) = true := by decide +kernel
theorem many_v21 : manyQ KM keyM noM (20 + 13 * 21 % 80) (byM (21 % 5)) = true := by decide +kernel
theorem many_v22 : manyQ KM keyM noM (20 + 13 * 22 % 80) (byM (22 % 5)) = true := by decide +kernel
theorem many_v23 : manyQ KM keyM noM (20 + 13 * 23 % 80) (byM (23 % 5)) = true := by decide +kernel
theorem many_v24 : manyQ KM keyM noM (20 + 13 * 24 % 80) (byM (24 % 5)) = true := by decide +kernel
theorem many_v25 : manyQ KM keyM noM (20 + 13 * 25 % 80) (byM (25 % 5)) = true := by decide +kernel
theorem many_v26 : manyQ KM keyM noM (20 + 13 * 26 % 80) (byM (26 % 5)) = true := by decide +kernel
theorem many_v27 : manyQ KM keyM noM (20 + 13 * 27 % 80) (byM (27 % 5)) = true := by decide +kernel
theorem many_v28 : manyQ KM keyM noM (20 + 13 * 28 % 80) (byM (28 % 5)) = true := by decide +kernel
theorem many_v29 : manyQ KM keyM noM (20 + 13 * 29 % 80) (byM (29 % 5)) = true := by decide +kernel
theorem many_t2 : ∀ j, 20 ≤ j → j < 30 → manyQ KM keyM noM (20 + 13 * j % 80) (byM (j % 5)) = true := by
  intro j h1 h2
  obtain h | h | h | h | h | h | h | h | h | h : j = 20 ∨ j = 21 ∨ j = 22 ∨ j = 23 ∨ j = 24 ∨ j = 25 ∨ j = 26 ∨ j = 27 ∨ j = 28 ∨ j = 29 := by omega
  · rw [h]; exact many_v20
  · rw [h]; exact many_v21
  · rw [h]; exact many_v22
  · rw [h]; exact many_v23
  · rw [h]; exact many_v24
  · rw [h]; exact many_v25
  · rw [h]; exact many_v26
  · rw [h]; exact many_v27
  · rw [h]; exact many_v28
  · rw [h]; exact many_v29
end Go.Proofs.YtaophiknldkfdaaGreatDoor
/- What the law of many keys does, reckoned: 30 to 39. No condition. -/
namespace Go.Proofs.YtaophiknldkfdaaGreatDoor
theorem many_v30 : manyQ KM keyM noM (20 + 13 * 30 % 80) (byM (30 % 5)) = true := by decide +kernel
theorem many_v31 : manyQ KM keyM noM (20 + 13 * 31 % 80) (byM (31 % 5)) = true := by decide +kernel
theorem many_v32 : manyQ KM keyM noM (20 + 13 * 32 % 80) (byM (32 % 5)) = true := by decide +kernel
theorem many_v33 : manyQ KM keyM noM (20 + 13 * 33 % 80) (byM (33 % 5)) = true := by decide +kernel
theorem many_v34 : manyQ KM keyM noM (20 + 13 * 34 % 80) (byM (34 % 5)) = true := by decide +kernel
theorem many_v35 : manyQ KM keyM noM (20 + 13 * 35 % 80) (byM (35 % 5)) = true := by decide +kernel
theorem many_v36 : manyQ KM keyM noM (20 + 13 * 36 % 80) (byM (36 % 5)) = true := by decide +kernel
theorem many_v37 : manyQ KM keyM noM (20 + 13 * 37 % 80) (byM (37 % 5)) = true := by decide +kernel
theorem many_v38 : manyQ KM keyM noM (20 + 13 * 38 % 80) (byM (38 % 5)) = true := by decide +kernel
theorem many_v39 : manyQ KM keyM noM (20 + 13 * 39 % 80) (byM (39 % 5)) = true := by decide +kernel
theorem many_t3 : ∀ j, 30 ≤ j → j < 40 → manyQ KM keyM noM (20 + 13 * j % 80) (byM (j % 5)) = true := by
  intro j h1 h2
  obtain h | h | h | h | h | h | h | h | h | h : j = 30 ∨ j = 31 ∨ j = 32 ∨ j = 33 ∨ j = 34 ∨ j = 35 ∨ j = 36 ∨ j = 37 ∨ j = 38 ∨ j = 39 := by omega
  · rw [h]; exact many_v30
  · rw [h]; exact many_v31
  · rw [h]; exact many_v32
  · rw [h]; exact many_v33
  · rw [h]; exact many_v34
  · rw [h]; exact many_v35
  · rw [h]; exact many_v36
  · rw [h]; exact many_v37
  · rw [h]; exact many_v38
  · rw [h]; exact many_v39
end Go.Proofs.YtaophiknldkfdaaGreatDoor
