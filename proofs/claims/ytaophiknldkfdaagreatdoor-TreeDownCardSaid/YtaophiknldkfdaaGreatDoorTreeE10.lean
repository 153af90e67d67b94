/- What the laws do, key by key, reckoned: made in order 1, cut in order 0. No condition. -/
import Derived.Test.YtaophiknldkfdaaGreatDoorTreeKK
namespace Go.Proofs.YtaophiknldkfdaaGreatDoor
theorem e10_5 : eachQ KK keyK 1 0 5 = true := by decide +kernel
theorem e10_6 : eachQ KK keyK 1 0 6 = true := by decide +kernel
theorem e10_7 : eachQ KK keyK 1 0 7 = true := by decide +kernel
theorem e10_8 : eachQ KK keyK 1 0 8 = true := by decide +kernel
theorem e10_9 : eachQ KK keyK 1 0 9 = true := by decide +kernel
theorem e10_10 : eachQ KK keyK 1 0 10 = true := by decide +kernel
theorem e10_11 : eachQ KK keyK 1 0 11 = true := by decide +kernel
theorem e10_12 : eachQ KK keyK 1 0 12 = true := by decide +kernel
theorem e10_13 : eachQ KK keyK 1 0 13 = true := by decide +kernel
theorem e10_14 : eachQ KK keyK 1 0 14 = true := by decide +kernel
theorem e10_15 : eachQ KK keyK 1 0 15 = true := by decide +kernel
theorem e10_16 : eachQ KK keyK 1 0 16 = true := by decide +kernel
theorem e10_17 : eachQ KK keyK 1 0 17 = true := by decide +kernel
theorem e10_18 : eachQ KK keyK 1 0 18 = true := by decide +kernel
theorem e10_19 : eachQ KK keyK 1 0 19 = true := by decide +kernel
theorem e10_20 : eachQ KK keyK 1 0 20 = true := by decide +kernel
theorem e10_21 : eachQ KK keyK 1 0 21 = true := by decide +kernel
theorem e10_22 : eachQ KK keyK 1 0 22 = true := by decide +kernel
theorem e10_23 : eachQ KK keyK 1 0 23 = true := by decide +kernel
theorem e10_24 : eachQ KK keyK 1 0 24 = true := by decide +kernel
theorem e10_25 : eachQ KK keyK 1 0 25 = true := by decide +kernel
theorem e10_26 : eachQ KK keyK 1 0 26 = true := by decide +kernel
theorem e10_27 : eachQ KK keyK 1 0 27 = true := by decide +kernel
theorem e10_28 : eachQ KK keyK 1 0 28 = true := by decide +kernel
theorem e10_29 : eachQ KK keyK 1 0 29 = true := by decide +kernel
theorem e10_30 : eachQ KK keyK 1 0 30 = true := by decide +kernel
theorem e10_31 : eachQ KK keyK 1 0 31 = true := by decide +kernel
theorem e10_32 : eachQ KK keyK 1 0 32 = true := by decide +kernel
theorem e10_33 : eachQ KK keyK 1 0 33 = true := by decide +kernel
theorem e10_34 : eachQ KK keyK 1 0 34 = true := by decide +kernel
theorem e10_35 : eachQ KK keyK 1 0 35 = true := by decide +kernel
theorem e10_36 : eachQ KK keyK 1 0 36 = true := by decide +kernel
theorem e10_37 : eachQ KK keyK 1 0 37 = true := by decide +kernel
theorem e10_38 : eachQ KK keyK 1 0 38 = true := by decide +kernel
theorem e10_39 : eachQ KK keyK 1 0 39 = true := by decide +kernel
theorem e10_40 : eachQ KK keyK 1 0 40 = true := by decide +kernel
theorem e10_41 : eachQ KK keyK 1 0 41 = true := by decide +kernel
theorem e10_42 : eachQ KK keyK 1 0 42 = true := by decide +kernel
theorem e10_43 : eachQ KK keyK 1 0 43 = true := by decide +kernel
theorem e10_44 : eachQ KK keyK 1 0 44 = true := by decide +kernel
theorem each_10 : ∀ n, n < 40 → eachQ KK keyK 1 0 (5 + n) = true
  | 0, _ => e10_5
  | 1, _ => e10_6
  | 2, _ => e10_7
  | 3, _ => e10_8
  | 4, _ => e10_9
  | 5, _ => e10_10
  | 6, _ => e10_11
  | 7, _ => e10_12
  | 8, _ => e10_13
  | 9, _ => e10_14
  | 10, _ => e10_15
  | 11, _ => e10_16
  | 12, _ => e10_17
  | 13, _ => e10_18
  | 14, _ => e10_19
  | 15, _ => e10_20
  | 16, _ => e10_21
  | 17, _ => e10_22
  | 18, _ => e10_23
  | 19, _ => e10_24
  | 20, _ => e10_25
  | 21, _ => e10_26
  | 22, _ => e10_27
  | 23, _ => e10_28
  | 24, _ => e10_29
  | 25, _ => e10_30
  | 26, _ => e10_31
  | 27, _ => e10_32
  | 28, _ => e10_33
  | 29, _ => e10_34
  | 30, _ => e10_35
  | 31, _ => e10_36
  | 32, _ => e10_37
  | 33, _ => e10_38
  | 34, _ => e10_39
  | 35, _ => e10_40
  | 36, _ => e10_41
  | 37, _ => e10_42
  | 38, _ => e10_43
  | 39, _ => e10_44
  | n + 40, h => absurd h (by omega)
end Go.Proofs.YtaophiknldkfdaaGreatDoor
