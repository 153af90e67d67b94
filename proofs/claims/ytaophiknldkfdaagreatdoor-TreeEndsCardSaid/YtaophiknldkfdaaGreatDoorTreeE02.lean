/- What the laws do, key by key, reckoned: made in order 0, cut in order 2. No condition. -/
import Derived.Test.YtaophiknldkfdaaGreatDoorTreeKK
namespace Go.Proofs.YtaophiknldkfdaaGreatDoor
theorem e02_5 : eachQ KK keyK 0 2 5 = true := by decide +kernel
theorem e02_6 : eachQ KK keyK 0 2 6 = true := by decide +kernel
theorem e02_7 : eachQ KK keyK 0 2 7 = true := by decide +kernel
theorem e02_8 : eachQ KK keyK 0 2 8 = true := by decide +kernel
theorem e02_9 : eachQ KK keyK 0 2 9 = true := by decide +kernel
theorem e02_10 : eachQ KK keyK 0 2 10 = true := by decide +kernel
theorem e02_11 : eachQ KK keyK 0 2 11 = true := by decide +kernel
theorem e02_12 : eachQ KK keyK 0 2 12 = true := by decide +kernel
theorem e02_13 : eachQ KK keyK 0 2 13 = true := by decide +kernel
theorem e02_14 : eachQ KK keyK 0 2 14 = true := by decide +kernel
theorem e02_15 : eachQ KK keyK 0 2 15 = true := by decide +kernel
theorem e02_16 : eachQ KK keyK 0 2 16 = true := by decide +kernel
theorem e02_17 : eachQ KK keyK 0 2 17 = true := by decide +kernel
theorem e02_18 : eachQ KK keyK 0 2 18 = true := by decide +kernel
theorem e02_19 : eachQ KK keyK 0 2 19 = true := by decide +kernel
theorem e02_20 : eachQ KK keyK 0 2 20 = true := by decide +kernel
theorem e02_21 : eachQ KK keyK 0 2 21 = true := by decide +kernel
theorem e02_22 : eachQ KK keyK 0 2 22 = true := by decide +kernel
theorem e02_23 : eachQ KK keyK 0 2 23 = true := by decide +kernel
theorem e02_24 : eachQ KK keyK 0 2 24 = true := by decide +kernel
theorem e02_25 : eachQ KK keyK 0 2 25 = true := by decide +kernel
theorem e02_26 : eachQ KK keyK 0 2 26 = true := by decide +kernel
theorem e02_27 : eachQ KK keyK 0 2 27 = true := by decide +kernel
theorem e02_28 : eachQ KK keyK 0 2 28 = true := by decide +kernel
theorem e02_29 : eachQ KK keyK 0 2 29 = true := by decide +kernel
theorem e02_30 : eachQ KK keyK 0 2 30 = true := by decide +kernel
theorem e02_31 : eachQ KK keyK 0 2 31 = true := by decide +kernel
theorem e02_32 : eachQ KK keyK 0 2 32 = true := by decide +kernel
theorem e02_33 : eachQ KK keyK 0 2 33 = true := by decide +kernel
theorem e02_34 : eachQ KK keyK 0 2 34 = true := by decide +kernel
theorem e02_35 : eachQ KK keyK 0 2 35 = true := by decide +kernel
theorem e02_36 : eachQ KK keyK 0 2 36 = true := by decide +kernel
theorem e02_37 : eachQ KK keyK 0 2 37 = true := by decide +kernel
theorem e02_38 : eachQ KK keyK 0 2 38 = true := by decide +kernel
theorem e02_39 : eachQ KK keyK 0 2 39 = true := by decide +kernel
theorem e02_40 : eachQ KK keyK 0 2 40 = true := by decide +kernel
theorem e02_41 : eachQ KK keyK 0 2 41 = true := by decide +kernel
theorem e02_42 : eachQ KK keyK 0 2 42 = true := by decide +kernel
theorem e02_43 : eachQ KK keyK 0 2 43 = true := by decide +kernel
theorem e02_44 : eachQ KK keyK 0 2 44 = true := by decide +kernel
theorem each_02 : ∀ n, n < 40 → eachQ KK keyK 0 2 (5 + n) = true
  | 0, _ => e02_5
  | 1, _ => e02_6
  | 2, _ => e02_7
  | 3, _ => e02_8
  | 4, _ => e02_9
  | 5, _ => e02_10
  | 6, _ => e02_11
  | 7, _ => e02_12
  | 8, _ => e02_13
  | 9, _ => e02_14
  | 10, _ => e02_15
  | 11, _ => e02_16
  | 12, _ => e02_17
  | 13, _ => e02_18
  | 14, _ => e02_19
  | 15, _ => e02_20
  | 16, _ => e02_21
  | 17, _ => e02_22
  | 18, _ => e02_23
  | 19, _ => e02_24
  | 20, _ => e02_25
  | 21, _ => e02_26
  | 22, _ => e02_27
  | 23, _ => e02_28
  | 24, _ => e02_29
  | 25, _ => e02_30
  | 26, _ => e02_31
  | 27, _ => e02_32
  | 28, _ => e02_33
  | 29, _ => e02_34
  | 30, _ => e02_35
  | 31, _ => e02_36
  | 32, _ => e02_37
  | 33, _ => e02_38
  | 34, _ => e02_39
  | 35, _ => e02_40
  | 36, _ => e02_41
  | 37, _ => e02_42
  | 38, _ => e02_43
  | 39, _ => e02_44
  | n + 40, h => absurd h (by omega)
end Go.Proofs.YtaophiknldkfdaaGreatDoor
