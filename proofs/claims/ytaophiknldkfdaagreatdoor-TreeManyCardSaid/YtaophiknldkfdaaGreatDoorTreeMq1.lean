/- What the law of many keys does, reckoned: 0 to 9. No condition. -/
import Derived.Test.YtaophiknldkfdaaGreatDoorTreeMn
namespace Go.Proofs.YtaophiknldkfdaaGreatDoor
theorem many_v0 : manyQ KM keyM noM (20 + 13 * 0 % 80) (byM (0 % 5)) = true := by decide +kernel
theorem many_v1 : manyQ KM keyM noM (20 + 13 * 1 % 80) (byM (1 % 5)) = true := by decide +kernel
theorem many_v2 : manyQ KM keyM noM (20 + 13 * 2 % 80) (byM (2 % 5)) = true := by decide +kernel
theorem many_v3 : manyQ KM keyM noM (20 + 13 * 3 % 80) (byM (3 % 5)) = true := by decide +kernel
theorem many_v4 : manyQ KM keyM noM (20 + 13 * 4 % 80) (byM (4 % 5)) = true := by decide +kernel
theorem many_v5 : manyQ KM keyM noM (20 + 13 * 5 % 80) (byM (5 % 5)) = true := by decide +kernel
theorem many_v6 : manyQ KM keyM noM (20 + 13 * 6 % 80) (byM (6 % 5)) = true := by decide +kernel
theorem many_v7 : manyQ KM keyM noM (20 + 13 * 7 % 80) (byM (7 % 5)) = true := by decide +kernel
theorem many_v8 : manyQ KM keyM noM (20 + 13 * 8 % 80) (byM (8 % 5)) = true := by decide +kernel
theorem many_v9 : manyQ KM keyM noM (20 + 13 * 9 % 80) (byM (9 % 5)) = true := by decide +kernel
theorem many_t0 : ∀ j, 0 ≤ j → j < 10 → manyQ KM keyM noM (20 + 13 * j % 80) (byM (j % 5)) = true := by
  intro j h1 h2
  obtain h | h | h | h | h | h | h | h | h | h : j = 0 ∨ j = 1 ∨ j = 2 ∨ j = 3 ∨ j = 4 ∨ j = 5 ∨ j = 6 ∨ j = 7 ∨ j = 8 ∨ j = 9 := by omega
  · rw [h]; exact many_v0
  · rw [h]; exact many_v1
  · rw [h]; exact many_v2
  · rw [h]; exact many_v3
  · rw [h]; exact many_v4
  · rw [h]; exact many_v5
  · rw [h]; exact many_v6
  · rw [h]; exact many_v7
  · rw [h]; exact many_v8
  · rw [h]; exact many_v9
end Go.Proofs.YtaophiknldkfdaaGreatDoor
/- What the law of many keys does, reckoned: 10 to 19. No condition. -/
namespace Go.Proofs.YtaophiknldkfdaaGreatDoor
theorem many_v10 : manyQ KM keyM noM (20 + 13 * 10 % 80) (byM (10 % 5)) = true := by decide +kernel
theorem many_v11 : manyQ KM keyM noM (20 + 13 * 11 % 80) (byM (11 % 5)) = true := by decide +kernel
theorem many_v12 : manyQ KM keyM noM (20 + 13 * 12 % 80) (byM (12 % 5)) = true := by decide +kernel
theorem many_v13 : manyQ KM keyM noM (20 + 13 * 13 % 80) (byM (13 % 5)) = true := by decide +kernel
theorem many_v14 : manyQ KM keyM noM (20 + 13 * 14 % 80) (byM (14 % 5)) = true := by decide +kernel
theorem many_v15 : manyQ KM keyM noM (20 + 13 * 15 % 80) (byM (15 % 5)) = true := by decide +kernel
theorem many_v16 : manyQ KM keyM noM (20 + 13 * 16 % 80) (byM (16 % 5)) = true := by decide +kernel
theorem many_v17 : manyQ KM keyM noM (20 + 13 * 17 % 80) (byM (17 % 5)) = true := by decide +kernel
theorem many_v18 : manyQ KM keyM noM (20 + 13 * 18 % 80) (byM (18 % 5)) = true := by decide +kernel
theorem many_v19 : manyQ KM keyM noM (20 + 13 * 19 % 80) (byM (19 % 5)) = true := by decide +kernel
theorem many_t1 : ∀ j, 10 ≤ j → j < 20 → manyQ KM keyM noM (20 + 13 * j % 80) (byM (j % 5)) = true := by
  intro j h1 h2
  obtain h | h | h | h | h | h | h | h | h | h : j = 10 ∨ j = 11 ∨ j = 12 ∨ j = 13 ∨ j = 14 ∨ j = 15 ∨ j = 16 ∨ j = 17 ∨ j = 18 ∨ j = 19 := by omega
  · rw [h]; exact many_v10
  · rw [h]; exact many_v11
  · rw [h]; exact many_v12
  · rw [h]; exact many_v13
  · rw [h]; exact many_v14
  · rw [h]; exact many_v15
  · rw [h]; exact many_v16
  · rw [h]; exact many_v17
  · rw [h]; exact many_v18
  · rw [h]; exact many_v19
end Go.Proofs.YtaophiknldkfdaaGreatDoor
