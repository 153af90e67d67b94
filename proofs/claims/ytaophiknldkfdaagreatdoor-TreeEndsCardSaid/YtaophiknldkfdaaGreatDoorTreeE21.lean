/- What the laws do, key by key, reckoned: made in order 2, cut in order 1. No condition. -/
import Derived.Test.YtaophiknldkfdaaGreatDoorTreeKK
namespace Go.Proofs.YtaophiknldkfdaaGreatDoor
theorem e21_5 : eachQ KK keyK 2 1 5 = true := by decide +kernel
theorem e21_6 : eachQ KK keyK 2 1 6 = true := by decide +kernel
theorem e21_7 : eachQ KK keyK 2 1 7 = true := by decide +kernel
theorem e21_8 : eachQ KK keyK 2 1 8 = true := by decide +kernel
theorem e21_9 : eachQ KK keyK 2 1 9 = true := by decide +kernel
theorem e21_10 : eachQ KK keyK 2 1 10 = true := by decide +kernel
theorem e21_11 : eachQ KK keyK 2 1 11 = true := by decide +kernel
theorem e21_12 : eachQ KK keyK 2 1 12 = true := by decide +kernel
theorem e21_13 : eachQ KK keyK 2 1 13 = true := by decide +kernel
theorem e21_14 : eachQ KK keyK 2 1 14 = true := by decide +kernel
theorem e21_15 : eachQ KK keyK 2 1 15 = true := by decide +kernel
theorem e21_16 : eachQ KK keyK 2 1 16 = true := by decide +kernel
theorem e21_17 : eachQ KK keyK 2 1 17 = true := by decide +kernel
theorem e21_18 : eachQ KK keyK 2 1 18 = true := by decide +kernel
theorem e21_19 : eachQ KK keyK 2 1 19 = true := by decide +kernel
theorem e21_20 : eachQ KK keyK 2 1 20 = true := by decide +kernel
theorem e21_21 : eachQ KK keyK 2 1 21 = true := by decide +kernel
theorem e21_22 : eachQ KK keyK 2 1 22 = true := by decide +kernel
theorem e21_23 : eachQ KK keyK 2 1 23 = true := by decide +kernel
theorem e21_24 : eachQ KK keyK 2 1 24 = true := by decide +kernel
theorem e21_25 : eachQ KK keyK 2 1 25 = true := by decide +kernel
theorem e21_26 : eachQ KK keyK 2 1 26 = true := by decide +kernel
theorem e21_27 : eachQ KK keyK 2 1 27 = true := by decide +kernel
theorem e21_28 : eachQ KK keyK 2 1 28 = true := by decide +kernel
theorem e21_29 : eachQ KK keyK 2 1 29 = true := by decide +kernel
theorem e21_30 : eachQ KK keyK 2 1 30 = true := by decide +kernel
theorem e21_31 : eachQ KK keyK 2 1 31 = true := by decide +kernel
theorem e21_32 : eachQ KK keyK 2 1 32 = true := by decide +kernel
theorem e21_33 : eachQ KK keyK 2 1 33 = true := by decide +kernel
theorem e21_34 : eachQ KK keyK 2 1 34 = true := by decide +kernel
theorem e21_35 : eachQ KK keyK 2 1 35 = true := by decide +kernel
theorem e21_36 : eachQ KK keyK 2 1 36 = true := by decide +kernel
theorem e21_37 : eachQ KK keyK 2 1 37 = true := by decide +kernel
theorem e21_38 : eachQ KK keyK 2 1 38 = true := by decide +kernel
theorem e21_39 : eachQ KK keyK 2 1 39 = true := by decide +kernel
theorem e21_40 : eachQ KK keyK 2 1 40 = true := by decide +kernel
theorem e21_41 : eachQ KK keyK 2 1 41 = true := by decide +kernel
theorem e21_42 : eachQ KK keyK 2 1 42 = true := by decide +kernel
theorem e21_43 : eachQ KK keyK 2 1 43 = true := by decide +kernel
theorem e21_44 : eachQ KK keyK 2 1 44 = true := by decide +kernel
theorem each_21 : ∀ n, n < 40 → eachQ KK keyK 2 1 (5 + n) = true
  | 0, _ => e21_5
  | 1, _ => e21_6
  | 2, _ => e21_7
  | 3, _ => e21_8
  | 4, _ => e21_9
  | 5, _ => e21_10
  | 6, _ => e21_11
  | 7, _ => e21_12
  | 8, _ => e21_13
  | 9, _ => e21_14
  | 10, _ => e21_15
  | 11, _ => e21_16
  | 12, _ => e21_17
  | 13, _ => e21_18
  | 14, _ => e21_19
  | 15, _ => e21_20
  | 16, _ => e21_21
  | 17, _ => e21_22
  | 18, _ => e21_23
  | 19, _ => e21_24
  | 20, _ => e21_25
  | 21, _ => e21_26
  | 22, _ => e21_27
  | 23, _ => e21_28
  | 24, _ => e21_29
  | 25, _ => e21_30
  | 26, _ => e21_31
  | 27, _ => e21_32
  | 28, _ => e21_33
  | 29, _ => e21_34
  | 30, _ => e21_35
  | 31, _ => e21_36
  | 32, _ => e21_37
  | 33, _ => e21_38
  | 34, _ => e21_39
  | 35, _ => e21_40
  | 36, _ => e21_41
  | 37, _ => e21_42
  | 38, _ => e21_43
  | 39, _ => e21_44
  | n + 40, h => absurd h (by omega)
end Go.Proofs.YtaophiknldkfdaaGreatDoor
