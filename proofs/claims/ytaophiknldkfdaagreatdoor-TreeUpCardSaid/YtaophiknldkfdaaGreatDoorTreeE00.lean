/- What the laws do, key by key, reckoned: made in order 0, cut in order 0. No condition. -/
import Derived.Test.YtaophiknldkfdaaGreatDoorTreeKK
namespace Go.Proofs.YtaophiknldkfdaaGreatDoor
theorem e00_5 : eachQ KK keyK 0 0 5 = true := by decide +kernel
theorem e00_6 : eachQ KK keyK 0 0 6 = true := by decide +kernel
theorem e00_7 : eachQ KK keyK 0 0 7 = true := by decide +kernel
theorem e00_8 : eachQ KK keyK 0 0 8 = true := by decide +kernel
theorem e00_9 : eachQ KK keyK 0 0 9 = true := by decide +kernel
theorem e00_10 : eachQ KK keyK 0 0 10 = true := by decide +kernel
theorem e00_11 : eachQ KK keyK 0 0 11 = true := by decide +kernel
theorem e00_12 : eachQ KK keyK 0 0 12 = true := by decide +kernel
theorem e00_13 : eachQ KK keyK 0 0 13 = true := by decide +kernel
theorem e00_14 : eachQ KK keyK 0 0 14 = true := by decide +kernel
theorem e00_15 : eachQ KK keyK 0 0 15 = true := by decide +kernel
theorem e00_16 : eachQ KK keyK 0 0 16 = true := by decide +kernel
theorem e00_17 : eachQ KK keyK 0 0 17 = true := by decide +kernel
theorem e00_18 : eachQ KK keyK 0 0 18 = true := by decide +kernel
theorem e00_19 : eachQ KK keyK 0 0 19 = true := by decide +kernel
theorem e00_20 : eachQ KK keyK 0 0 20 = true := by decide +kernel
theorem e00_21 : eachQ KK keyK 0 0 21 = true := by decide +kernel
theorem e00_22 : eachQ KK keyK 0 0 22 = true := by decide +kernel
theorem e00_23 : eachQ KK keyK 0 0 23 = true := by decide +kernel
theorem e00_24 : eachQ KK keyK 0 0 24 = true := by decide +kernel
theorem e00_25 : eachQ KK keyK 0 0 25 = true := by decide +kernel
theorem e00_26 : eachQ KK keyK 0 0 26 = true := by decide +kernel
theorem e00_27 : eachQ KK keyK 0 0 27 = true := by decide +kernel
theorem e00_28 : eachQ KK keyK 0 0 28 = true := by decide +kernel
theorem e00_29 : eachQ KK keyK 0 0 29 = true := by decide +kernel
theorem e00_30 : eachQ KK keyK 0 0 30 = true := by decide +kernel
theorem e00_31 : eachQ KK keyK 0 0 31 = true := by decide +kernel
theorem e00_32 : eachQ KK keyK 0 0 32 = true := by decide +kernel
theorem e00_33 : eachQ KK keyK 0 0 33 = true := by decide +kernel
theorem e00_34 : eachQ KK keyK 0 0 34 = true := by decide +kernel
theorem e00_35 : eachQ KK keyK 0 0 35 = true := by decide +kernel
theorem e00_36 : eachQ KK keyK 0 0 36 = true := by decide +kernel
theorem e00_37 : eachQ KK keyK 0 0 37 = true := by decide +kernel
theorem e00_38 : eachQ KK keyK 0 0 38 = true := by decide +kernel
theorem e00_39 : eachQ KK keyK 0 0 39 = true := by decide +kernel
theorem e00_40 : eachQ KK keyK 0 0 40 = true := by decide +kernel
theorem e00_41 : eachQ KK keyK 0 0 41 = true := by decide +kernel
theorem e00_42 : eachQ KK keyK 0 0 42 = true := by decide +kernel
theorem e00_43 : eachQ KK keyK 0 0 43 = true := by decide +kernel
theorem e00_44 : eachQ KK keyK 0 0 44 = true := by decide +kernel
theorem each_00 : ∀ n, n < 40 → eachQ KK keyK 0 0 (5 + n) = true
  | 0, _ => e00_5
  | 1, _ => e00_6
  | 2, _ => e00_7
  | 3, _ => e00_8
  | 4, _ => e00_9
  | 5, _ => e00_10
  | 6, _ => e00_11
  | 7, _ => e00_12
  | 8, _ => e00_13
  | 9, _ => e00_14
  | 10, _ => e00_15
  | 11, _ => e00_16
  | 12, _ => e00_17
  | 13, _ => e00_18
  | 14, _ => e00_19
  | 15, _ => e00_20
  | 16, _ => e00_21
  | 17, _ => e00_22
  | 18, _ => e00_23
  | 19, _ => e00_24
  | 20, _ => e00_25
  | 21, _ => e00_26
  | 22, _ => e00_27
  | 23, _ => e00_28
  | 24, _ => e00_29
  | 25, _ => e00_30
  | 26, _ => e00_31
  | 27, _ => e00_32
  | 28, _ => e00_33
  | 29, _ => e00_34
  | 30, _ => e00_35
  | 31, _ => e00_36
  | 32, _ => e00_37
  | 33, _ => e00_38
  | 34, _ => e00_39
  | 35, _ => e00_40
  | 36, _ => e00_41
  | 37, _ => e00_42
  | 38, _ => e00_43
  | 39, _ => e00_44
  | n + 40, h => absurd h (by omega)
end Go.Proofs.YtaophiknldkfdaaGreatDoor
