/- Contract: the parts joined. No condition. -/
import Derived.Test.YtaelgappabecgaaCoH0
import Derived.Test.YtaelgappabecgaaCoPl2
import Derived.Test.YtaelgappabecgaaCoB
namespace Go.Proofs.Ytaelgappabecgaa
open Go.RowKit

theorem joinP_nil (f at1 : Nat) (acc : List UInt8) : joinP f at1 [] acc = ([], 0) := by
  cases f <;> rfl
theorem byte_at (s : ByteArray) (i : Nat) (h : i < s.size) : s[i]'h = s.data.toList.getD i 0 := by
  have h2 : i < s.data.size := h
  simp [List.getD, h2, ByteArray.getElem_eq_getElem_data]
  rw [Array.getElem?_eq_getElem h2]; rfl
theorem ext_mid (s : ByteArray) (i q : Nat) : s.extract i (i + q) = toB ((s.data.toList.drop i).take q) := by
  apply ByteArray.ext
  apply Array.toList_inj.1
  rw [ByteArray.data_extract, Array.toList_extract]
  simp [toB]
set_option maxRecDepth 100000 in
set_option maxHeartbeats 8000000 in
theorem joined_any (w : World) (v : Value) (S : List ByteArray) (h : SsAt w v S) :
    Calls Try.prog 35 #[v] w fun e w' => e = .returned (.tuple #[.string (toB (joinP 116 0 S []).1), .int .i64 (joinP 116 0 S []).2]) ∧ Below w.heap.size w w' := by
  obtain ⟨p, cap, rfl, hl, hcap, ht⟩ := h.at
  have H := Lib.hid ht
  generalize hJ : joinP 116 0 S [] = J
  have HJ0 : Hid (joinP (116 - 0) 0 (S.drop 0) [] = J) := Lib.hid hJ
  clear h ht hJ
  obtain ⟨m, hm⟩ : ∃ m, min S.length 116 = m := ⟨_, rfl⟩
  have hmn : min ((S.length : Nat) : Int) 116 = (m : Int) := by omega
  have hmS : m ≤ S.length := by omega
  have hm116 : m ≤ 116 := by omega
  have hmc : m ≤ cap := by omega
  go_enter Try.func35, Try.ntmps35
  go_wp2_with fail
  have hb0 : Lib.IsBuilder 88 5 w.heap.size w.heap.size (Lib.byteCells []) (w.alloc (Obj.cells #[.pointer none, .slice none 0 0] 88)) := .inl ⟨Nat.le_refl _, .slice none 0 0, by exact Blc.new _ _ _, World.ownsRow_nil _ _ _ _, by intro e; cases e⟩
  have HB0 := Lib.hid hb0
  clear hb0
  go_loopg [13] (m + 1) (fun g s13 wr => ∃ (k : Nat) (acc : List UInt8), k ≤ m ∧ g + k = m + 1 ∧ s13 = .int .i64 k ∧ acc.length ≤ 20 * k ∧ Hid (joinP (116 - k) k (S.drop k) acc = J) ∧ Hid (Lib.IsBuilder 88 5 w.heap.size w.heap.size (Lib.byteCells acc) wr) ∧ Hid (Below w.heap.size w wr))
  case atStart => exact ⟨0, [], Nat.zero_le _, rfl, rfl, by simp, HJ0, HB0, Lib.hid (by (repeat (first | exact Below.refl _ _ | assumption | refine nw_more ?_ _ _ | refine nw_alloc ?_ _ | refine nw_drew ?_ | refine nw_drewN ?_ _ | refine nw_set ?_ (by first | (simp; done) | (simp; omega) | omega) _)))⟩
  case round =>
    clear HB0 HJ0
    obtain ⟨k, acc, hk, hg, rfl, hacc, HJ, HB, HW⟩ := hrel
    obtain rfl : gk = m + 1 - k := by omega
    clear hg
    have hwz : w.heap.size ≤ wr.heap.size := HW.out.size
    by_cases hlt : k < m
    · have hkl : (k : Int) < (m : Int) := by omega
      obtain ⟨b, off, s, rfl, hb, hc0, hd, hxk, hsz⟩ := H.out k (by omega)
      have hc1 : wr.cell? ⟨b, off + k, none⟩ = some (.string s) := (HW.out.cell (p := ⟨b, off + k, none⟩) hb.out).trans hc0
      have hb1 : Lt b wr.heap.size := Nat.lt_of_lt_of_le hb.out hwz
      obtain ⟨f, hf⟩ : ∃ f, 116 - k = f + 1 := ⟨116 - k - 1, by omega⟩
      have hj := HJ.out
      rw [hf, hd, joinP] at hj
      clear hc0 hb hd hxk HJ
      by_cases h32 : s.size = 32
      · rw [if_pos h32] at hj
        have h32i : (s.size : Int) = 32 := by omega
        have g11 : (s[11]'(by omega)).toNat = (s.data.toList.getD 11 0).toNat := by rw [byte_at s 11 (by omega)]
        have g10 : (s[10]'(by omega)).toNat = (s.data.toList.getD 10 0).toNat := by rw [byte_at s 10 (by omega)]
        have b11 : (s.data.toList.getD 11 0).toNat < 256 := (s.data.toList.getD 11 0).toNat_lt
        have b10 : (s.data.toList.getD 10 0).toNat < 256 := (s.data.toList.getD 10 0).toNat_lt
        have hz10 : (s.data.toList.getD 10 0 = 0) ↔ (s.data.toList.getD 10 0).toNat = 0 := by
          constructor
          · intro e; rw [e]; rfl
          · intro e; exact UInt8.toNat_inj.1 e
        simp only [hz10] at hj
        obtain ⟨q, hq⟩ : ∃ q, min (s.data.toList.getD 11 0).toNat 20 = q := ⟨_, rfl⟩
        rw [hq] at hj
        generalize (s.data.toList.getD 11 0).toNat = t11 at *
        generalize (s.data.toList.getD 10 0).toNat = t10 at *
        have hqi : min ((t11 : Nat) : Int) 20 = (q : Int) := by omega
        have hq20 : q ≤ 20 := by omega
        have hq32 : 12 + q ≤ s.size := by omega
        have hsx : s.extract 12 (12 + q) = toB ((s.data.toList.drop 12).take q) := ext_mid s 12 q
        clear hz10 H
        have HJ := Lib.hid hj
        clear hj
        have hxl : ((s.data.toList.drop 12).take q).length ≤ 20 := by rw [List.length_take]; omega
        go_wp2_with fail
        refine (writeString_any w.heap.size w.heap.size (Lib.byteCells acc) (toB ((s.data.toList.drop 12).take q)) _ HB.out (by rw [Lib.byteCells_length, toB_size]; omega) hwz).mono ?_
        rintro e w1 ⟨⟨v1, rfl⟩, hbw, hbb⟩
        have hbs : Lib.byteCells acc ++ Lib.strCells (toB ((s.data.toList.drop 12).take q)) = Lib.byteCells (acc ++ (s.data.toList.drop 12).take q) := by
          rw [Lib.byteCells_append, Lib.strCells_eq, toB_data]
        rw [hbs] at hbw
        have hal : (acc ++ (s.data.toList.drop 12).take q).length ≤ 20 * (k + 1) := by rw [List.length_append]; omega
        generalize acc ++ (s.data.toList.drop 12).take q = acc2 at *
        have HBW := Lib.hid hbw
        have HBB := Lib.hid (HW.out.trans hbb)
        have hz1 : w.heap.size ≤ w1.heap.size := HBB.out.size
        clear hbw hbb HW HB hbs
        by_cases h0 : t10 = 0
        · have hj := HJ.out
          rw [if_pos h0] at hj
          have HJ2 : Hid (joinP (116 - (k + 1)) (k + 1) (S.drop (k + 1)) acc2 = J) := Lib.hid (by rw [show 116 - (k + 1) = f by omega]; exact hj)
          clear hj HJ hc1
          subst h0
          go_wp2
          go_roundg (m + 1 - k - 1)
          case measure => omega
          case rel => exact ⟨k + 1, acc2, by omega, by omega, by go_num, hal, HJ2, Lib.hid (.inr HBW.out), HBB⟩
        · have hj := HJ.out
          rw [if_neg h0] at hj
          have h0i : ¬ (t10 : Int) = 0 := by omega
          have h0b : ((t10 : Int) != 0) = true := bne_iff_ne.2 h0i
          clear HJ hc1
          subst hj
          go_wp2_with fail
          refine (Try.Builder_String_any w.heap.size w.heap.size acc2 _ (.inr HBW.out) hz1).mono ?_
          rintro e w9 ⟨rfl, hb9⟩
          have HB9 := Lib.hid (HBB.out.trans hb9)
          clear hb9 HBW HBB
          go_wp2
          refine bodyPost_ret (v := .tuple #[.string (toB acc2), .int .i64 ((k + 1 : Nat) : Int)]) (by simp [results, Try.results35, go_sem, toB]) rfl ⟨rfl, HB9.out⟩
      · rw [if_neg h32] at hj
        have h32i : ¬ (s.size : Int) = 32 := by omega
        subst hj
        go_wp2
        exact bodyPost_ret (v := .tuple #[.string { data := #[] }, .int .i64 0]) (by simp [results, Try.results35, go_sem]) rfl ⟨rfl, HW.out⟩
    · have hkl : ¬ (k : Int) < (m : Int) := by omega
      have hj : J = ([], 0) := by
        rw [← HJ.out]
        by_cases h1 : k = 116
        · rw [h1]; rfl
        · rw [List.drop_of_length_le (by omega), joinP_nil]
      subst hj
      clear HJ
      go_wp2
      exact bodyPost_ret (v := .tuple #[.string { data := #[] }, .int .i64 0]) (by simp [results, Try.results35, go_sem]) rfl ⟨rfl, HW.out⟩
end Go.Proofs.Ytaelgappabecgaa
