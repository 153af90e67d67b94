/- What the laws do, key by key, reckoned: made in order 2, cut in order 2. No condition. -/
import Derived.Test.YtaophiknldkfdaaGreatDoorTreeKK
namespace Go.Proofs.YtaophiknldkfdaaGreatDoor
theorem e22_5 : eachQ KK keyK 2 2 5 = true := by decide +kernel
theorem e22_6 : eachQ KK keyK 2 2 6 = true := by decide +kernel
theorem e22_7 : eachQ KK keyK 2 2 7 = true := by decide +kernel
theorem e22_8 : eachQ KK keyK 2 2 8 = true := by decide +kernel
theorem e22_9 : eachQ KK keyK 2 2 9 = true := by decide +kernel
theorem e22_10 : eachQ KK keyK 2 2 10 = true := by decide +kernel
theorem e22_11 : eachQ KK keyK 2 2 11 = true := by decide +kernel
theorem e22_12 : eachQ KK keyK 2 2 12 = true := by decide +kernel
theorem e22_13 : eachQ KK keyK 2 2 13 = true := by decide +kernel
theorem e22_14 : eachQ KK keyK 2 2 14 = true := by decide +kernel
theorem e22_15 : eachQ KK keyK 2 2 15 = true := by decide +kernel
theorem e22_16 : eachQ KK keyK 2 2 16 = true := by decide +kernel
theorem e22_17 : eachQ KK keyK 2 2 17 = true := by decide +kernel
theorem e22_18 : eachQ KK keyK 2 2 18 = true := by decide +kernel
theorem e22_19 : eachQ KK keyK 2 2 19 = true := by decide +kernel
theorem e22_20 : eachQ KK keyK 2 2 20 = true := by decide +kernel
theorem e22_21 : eachQ KK keyK 2 2 21 = true := by decide +kernel
theorem e22_22 : eachQ KK keyK 2 2 22 = true := by decide +kernel
theorem e22_23 : eachQ KK keyK 2 2 23 = true := by decide +kernel
theorem e22_24 : eachQ KK keyK 2 2 24 = true := by decide +kernel
theorem e22_25 : eachQ KK keyK 2 2 25 = true := by decide +kernel
theorem e22_26 : eachQ KK keyK 2 2 26 = true := by decide +kernel
theorem e22_27 : eachQ KK keyK 2 2 27 = true := by decide +kernel
theorem e22_28 : eachQ KK keyK 2 2 28 = true := by decide +kernel
theorem e22_29 : eachQ KK keyK 2 2 29 = true := by decide +kernel
theorem e22_30 : eachQ KK keyK 2 2 30 = true := by decide +kernel
theorem e22_31 : eachQ KK keyK 2 2 31 = true := by decide +kernel
theorem e22_32 : eachQ KK keyK 2 2 32 = true := by decide +kernel
theorem e22_33 : eachQ KK keyK 2 2 33 = true := by decide +kernel
theorem e22_34 : eachQ KK keyK 2 2 34 = true := by decide +kernel
theorem e22_35 : eachQ KK keyK 2 2 35 = true := by decide +kernel
theorem e22_36 : eachQ KK keyK 2 2 36 = true := by decide +kernel
theorem e22_37 : eachQ KK keyK 2 2 37 = true := by decide +kernel
theorem e22_38 : eachQ KK keyK 2 2 38 = true := by decide +kernel
theorem e22_39 : eachQ KK keyK 2 2 39 = true := by decide +kernel
theorem e22_40 : eachQ KK keyK 2 2 40 = true := by decide +kernel
theorem e22_41 : eachQ KK keyK 2 2 41 = true := by decide +kernel
theorem e22_42 : eachQ KK keyK 2 2 42 = true := by decide +kernel
theorem e22_43 : eachQ KK keyK 2 2 43 = true := by decide +kernel
theorem e22_44 : eachQ KK keyK 2 2 44 = true := by decide +kernel
theorem each_22 : ∀ n, n < 40 → eachQ KK keyK 2 2 (5 + n) = true
  | 0, _ => e22_5
  | 1, _ => e22_6
  | 2, _ => e22_7
  | 3, _ => e22_8
  | 4, _ => e22_9
  | 5, _ => e22_10
  | 6, _ => e22_11
  | 7, _ => e22_12
  | 8, _ => e22_13
  | 9, _ => e22_14
  | 10, _ => e22_15
  | 11, _ => e22_16
  | 12, _ => e22_17
  | 13, _ => e22_18
  | 14, _ => e22_19
  | 15, _ => e22_20
  | 16, _ => e22_21
  | 17, _ => e22_22
  | 18, _ => e22_23
  | 19, _ => e22_24
  | 20, _ => e22_25
  | 21, _ => e22_26
  | 22, _ => e22_27
  | 23, _ => e22_28
  | 24, _ => e22_29
  | 25, _ => e22_30
  | 26, _ => e22_31
  | 27, _ => e22_32
  | 28, _ => e22_33
  | 29, _ => e22_34
  | 30, _ => e22_35
  | 31, _ => e22_36
  | 32, _ => e22_37
  | 33, _ => e22_38
  | 34, _ => e22_39
  | 35, _ => e22_40
  | 36, _ => e22_41
  | 37, _ => e22_42
  | 38, _ => e22_43
  | 39, _ => e22_44
  | n + 40, h => absurd h (by omega)
end Go.Proofs.YtaophiknldkfdaaGreatDoor
