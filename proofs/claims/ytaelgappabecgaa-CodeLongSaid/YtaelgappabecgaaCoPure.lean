/- What is cut into sectors is read as it: on lists. No condition. -/
import Derived.Test.YtaelgappabecgaaCoPl2
namespace Go.Proofs.Ytaelgappabecgaa
open Go.RowKit

theorem secL_shape (run n i : Nat) (last : Bool) (p : List UInt8) : ∃ h : List UInt8, h.length = 10 ∧ secL run n i last p = h ++ (UInt8.ofNat (if last then 1 else 0) :: UInt8.ofNat p.length :: (p ++ List.replicate (20 - p.length) 0)) := by
  refine ⟨encN run 4 ++ encN n 4 ++ encN i 2, by simp [encN_length], ?_⟩
  simp [secL, encN, Nat.div_one]
theorem sec_parts (run n i : Nat) (last : Bool) (p : List UInt8) (hp : p.length ≤ 20) : (secL run n i last p).getD 10 0 = UInt8.ofNat (if last then 1 else 0) ∧ ((secL run n i last p).getD 11 0).toNat = p.length ∧ ((secL run n i last p).drop 12).take p.length = p := by
  obtain ⟨h, hl, e⟩ := secL_shape run n i last p
  rw [e]
  refine ⟨?_, ?_, ?_⟩
  · simp [List.getD, List.getElem?_append_right, hl]
  · have : (h ++ (UInt8.ofNat (if last then 1 else 0) :: UInt8.ofNat p.length :: (p ++ List.replicate (20 - p.length) 0))).getD 11 0 = UInt8.ofNat p.length := by
      simp [List.getD, List.getElem?_append_right, hl]
    rw [this, UInt8.toNat_ofNat']
    exact Nat.mod_eq_of_lt (by omega)
  · have : (h ++ (UInt8.ofNat (if last then 1 else 0) :: UInt8.ofNat p.length :: (p ++ List.replicate (20 - p.length) 0))).drop 12 = p ++ List.replicate (20 - p.length) 0 := by
      rw [List.drop_append, hl, List.drop_of_length_le (by omega)]
      rfl
    rw [this, List.take_left' rfl]
theorem secB_parts {run n i : Nat} {last : Bool} {p : List UInt8} {run' n' i' : Nat} {last' : Bool} {p' : List UInt8} (h : secB run n i last p = secB run' n' i' last' p') : encN run 4 = encN run' 4 ∧ encN n 4 = encN n' 4 ∧ encN i 2 = encN i' 2 ∧ encN (if last then 1 else 0) 1 = encN (if last' then 1 else 0) 1 := by
  have h1 : secL run n i last p = secL run' n' i' last' p' := by
    have := congrArg (fun s : ByteArray => s.data.toList) h
    exact this
  unfold secL at h1
  simp only [List.append_assoc] at h1
  obtain ⟨e1, h2⟩ := List.append_inj h1 (by simp [encN_length])
  obtain ⟨e2, h3⟩ := List.append_inj h2 (by simp [encN_length])
  obtain ⟨e3, h4⟩ := List.append_inj h3 (by simp [encN_length])
  obtain ⟨e4, -⟩ := List.append_inj h4 (by simp [encN_length])
  exact ⟨e1, e2, e3, e4⟩
theorem encN_inj {a b k : Nat} (ha : a < 256 ^ k) (hb : b < 256 ^ k) (h : encN a k = encN b k) : a = b := by
  rw [← decN_enc ha, ← decN_enc hb, h]
theorem part_take (L : List UInt8) (k : Nat) : L.take (20 * k) ++ part L k = L.take (20 * (k + 1)) := by
  rw [show 20 * (k + 1) = 20 * k + 20 by omega, List.take_add]
  rfl
/-- The parts joined are the bytes. -/
theorem joinP_secs (L : List UInt8) (run n : Nat) (more : List ByteArray) (h1 : 0 < nParts L) (h2 : nParts L ≤ 116) : ∀ (d k : Nat), d + k + 1 = nParts L → joinP (116 - k) k ((secs L run n).drop k ++ more) (L.take (20 * k)) = (L, nParts L) := by
  intro d
  induction d with
  | zero =>
    intro k hk
    have hkl : k < (secs L run n).length := by rw [secs_len]; omega
    have hd : (secs L run n).drop k = secAt L run n k :: (secs L run n).drop (k + 1) := by
      rw [List.drop_eq_getElem_cons hkl]
      congr 1
      have := secs_at L run n k (by omega)
      rw [List.getElem?_eq_getElem hkl] at this
      exact Option.some.inj this
    obtain ⟨p1, p2, p3⟩ := sec_parts run n k (decide (k + 1 = nParts L)) (part L k) (part_len L k)
    obtain ⟨f, hf⟩ : ∃ f, 116 - k = f + 1 := ⟨115 - k, by omega⟩
    rw [hf, hd, List.cons_append, joinP]
    have hsz : (secAt L run n k).size = 32 := secs_size (l := L) (run := run) (n := n) (List.mem_of_getElem? (secs_at L run n k (by omega)))
    have hdt : (secAt L run n k).data.toList = secL run n k (decide (k + 1 = nParts L)) (part L k) := rfl
    have hdec : decide (k + 1 = nParts L) = true := decide_eq_true (by omega)
    rw [if_pos hsz, hdt, p1, p2, hdec]
    rw [if_neg (by decide), Nat.min_eq_left (part_len L k), ← hdec, p3, part_take, List.take_of_length_le (by unfold nParts at hk; omega), show k + 1 = nParts L by omega]
  | succ d ih =>
    intro k hk
    have hkl : k < (secs L run n).length := by rw [secs_len]; omega
    have hd : (secs L run n).drop k = secAt L run n k :: (secs L run n).drop (k + 1) := by
      rw [List.drop_eq_getElem_cons hkl]
      congr 1
      have := secs_at L run n k (by omega)
      rw [List.getElem?_eq_getElem hkl] at this
      exact Option.some.inj this
    obtain ⟨p1, p2, p3⟩ := sec_parts run n k (decide (k + 1 = nParts L)) (part L k) (part_len L k)
    obtain ⟨f, hf⟩ : ∃ f, 116 - k = f + 1 := ⟨115 - k, by omega⟩
    rw [hf, hd, List.cons_append, joinP]
    have hsz : (secAt L run n k).size = 32 := secs_size (l := L) (run := run) (n := n) (List.mem_of_getElem? (secs_at L run n k (by omega)))
    have hdt : (secAt L run n k).data.toList = secL run n k (decide (k + 1 = nParts L)) (part L k) := rfl
    have hdec : decide (k + 1 = nParts L) = false := decide_eq_false (by omega)
    rw [if_pos hsz, hdt, p1, p2, hdec]
    rw [if_pos (by decide), Nat.min_eq_left (part_len L k), ← hdec, p3, part_take, show f = 116 - (k + 1) by omega]
    exact ih (k + 1) (by omega)
theorem nParts_ok {c : Int} {l : List Wr} (h : rOk c l = true) : 0 < nParts (rBytes c l) ∧ nParts (rBytes c l) ≤ 116 := by
  have := rBytes_len h
  unfold nParts; omega
theorem joinP_all {c : Int} {l : List Wr} (h : rOk c l = true) (run n : Nat) (more : List ByteArray) : joinP 116 0 (secs (rBytes c l) run n ++ more) [] = (rBytes c l, nParts (rBytes c l)) := by
  obtain ⟨h1, h2⟩ := nParts_ok h
  have := joinP_secs (rBytes c l) run n more h1 h2 (nParts (rBytes c l) - 1) 0 (by omega)
  simpa using this
/-- The record at the begin is the one that was cut, whatever lies behind. -/
theorem firstP_secs {c : Int} {l : List Wr} (h : rOk c l = true) (run n : Nat) (more : List ByteArray) : firstP (secs (rBytes c l) run n ++ more) run n = some ((c, l), nParts (rBytes c l)) := by
  unfold firstP
  rw [joinP_all h run n more]
  dsimp only
  rw [takeP_of h]
  dsimp only
  rw [if_pos (List.take_left' (secs_len _ _ _))]
/-- Of another run, or another number, there is none. -/
theorem firstP_other {c : Int} {l : List Wr} (h : rOk c l = true) {run n run' n' : Nat} (hr : run < 4294967296) (hr' : run' < 4294967296) (hn : n < 4294967296) (hn' : n' < 4294967296) (hne : ¬ (run = run' ∧ n = n')) : firstP (secs (rBytes c l) run n) run' n' = none := by
  unfold firstP
  have hj := joinP_all h run n []
  rw [List.append_nil] at hj
  rw [hj]
  dsimp only
  rw [takeP_of h]
  dsimp only
  rw [if_neg]
  intro e
  apply hne
  have h0 := (nParts_ok h).1
  have hs := secs_at (rBytes c l) run n 0 h0
  have hs' := secs_at (rBytes c l) run' n' 0 h0
  rw [List.take_of_length_le (by rw [secs_len]; exact Nat.le_refl _)] at e
  rw [e, hs'] at hs
  obtain ⟨e1, e2, -, -⟩ := secB_parts (Option.some.inj hs)
  exact ⟨(encN_inj (by omega) (by omega) e1).symm, (encN_inj (by omega) (by omega) e2).symm⟩
theorem firstP_some {S : List ByteArray} {run n : Nat} {r : Int × List Wr} {m : Nat} (h : firstP S run n = some (r, m)) : S.take m = secs (rBytes r.1 r.2) run n ∧ 0 < nParts (rBytes r.1 r.2) ∧ nParts (rBytes r.1 r.2) ≤ 116 := by
  unfold firstP at h
  split at h
  · cases h
  · rename_i r0 hr0
    split at h
    · rename_i he
      simp only [Option.some.injEq, Prod.mk.injEq] at h
      obtain ⟨rfl, rfl⟩ := h
      exact ⟨he, nParts_ok (takeP_ok hr0).1⟩
    · cases h
/-- Without one of its sectors there is none. -/
theorem firstP_lost {c : Int} {l : List Wr} (h : rOk c l = true) (run n k : Nat) (hk : k < nParts (rBytes c l)) : firstP ((secs (rBytes c l) run n).take k ++ (secs (rBytes c l) run n).drop (k + 1)) run n = none := by
  cases hf : firstP ((secs (rBytes c l) run n).take k ++ (secs (rBytes c l) run n).drop (k + 1)) run n with
  | none => rfl
  | some rm =>
    exfalso
    obtain ⟨r, m⟩ := rm
    obtain ⟨he, h1, h2⟩ := firstP_some hf
    obtain ⟨g1, g2⟩ := nParts_ok h
    generalize rBytes c l = L at *
    generalize rBytes r.1 r.2 = L' at *
    have hlen : ((secs L run n).take k ++ (secs L run n).drop (k + 1)).length = nParts L - 1 := by
      rw [List.length_append, List.length_take, List.length_drop, secs_len]; omega
    have hm : min m (nParts L - 1) = nParts L' := by
      have := congrArg List.length he
      rw [List.length_take, hlen, secs_len] at this
      exact this
    have hat : ∀ i, i < nParts L' → ((secs L run n).take k ++ (secs L run n).drop (k + 1))[i]? = some (secAt L' run n i) := fun i hi => by
      have := secs_at L' run n i hi
      rw [← he, List.getElem?_take_of_lt (by omega)] at this
      exact this
    have hlk : ((secs L run n).take k).length = k := by rw [List.length_take, secs_len]; omega
    have hbig : ∀ i, i < nParts L' → i < k := fun i hi => by
      rcases Nat.lt_or_ge i k with h3 | h3
      · exact h3
      · exfalso
        have h4 := hat i hi
        rw [List.getElem?_append_right (by omega), hlk, List.getElem?_drop, show k + 1 + (i - k) = i + 1 by omega, secs_at L run n (i + 1) (by omega)] at h4
        obtain ⟨-, -, e3, -⟩ := secB_parts (Option.some.inj h4)
        have := encN_inj (k := 2) (by omega) (by omega) e3
        omega
    have hlast := hat (nParts L' - 1) (by omega)
    have hlk2 := hbig (nParts L' - 1) (by omega)
    rw [List.getElem?_append_left (by omega), List.getElem?_take_of_lt hlk2, secs_at L run n _ (by omega)] at hlast
    obtain ⟨-, -, -, e4⟩ := secB_parts (Option.some.inj hlast)
    rw [decide_eq_true (show nParts L' - 1 + 1 = nParts L' by omega), decide_eq_false (show ¬ nParts L' - 1 + 1 = nParts L by omega)] at e4
    simp [encN] at e4
/-- Records, one behind the other, of numbers from n on. -/
def catS (run : Nat) : Nat → List (Int × List Wr) → List ByteArray
  | _, [] => []
  | n, r :: rs => secs (rBytes r.1 r.2) run n ++ catS run (n + 1) rs
theorem readP_none {f : Nat} {S : List ByteArray} {run n : Nat} (h : firstP S run n = none) : readP f S run n = ([], 0) := by
  cases f with
  | zero => rfl
  | succ f =>
    rw [readP]
    split
    · rw [h]
    · rfl
theorem readP_cat (run : Nat) (tail : List ByteArray) : ∀ (rs : List (Int × List Wr)) (n f : Nat), (∀ r ∈ rs, rOk r.1 r.2 = true) → rs.length ≤ f → n + rs.length ≤ 1073741825 → firstP tail run (n + rs.length) = none → readP f (catS run n rs ++ tail) run n = (rs, (catS run n rs).length)
  | [], n, f, _, _, _, h => by
    rw [catS, List.nil_append]
    exact readP_none h
  | r :: rs, n, 0, _, hf, _, _ => by simp at hf
  | r :: rs, n, f + 1, hok, hf, hn, h => by
    rw [List.length_cons] at hf hn h
    have h1 := hok r List.mem_cons_self
    rw [catS, List.append_assoc, readP, if_pos (by omega), firstP_secs h1]
    dsimp only
    rw [List.drop_left' (secs_len _ _ _), readP_cat run tail rs (n + 1) f (fun x hx => hok x (List.mem_cons_of_mem _ hx)) (by omega) (by omega) (by rw [show n + 1 + rs.length = n + (rs.length + 1) by omega]; exact h)]
    simp [secs_len]
theorem catS_snoc (run : Nat) : ∀ (rs : List (Int × List Wr)) (n : Nat) (r : Int × List Wr), catS run n (rs ++ [r]) = catS run n rs ++ secs (rBytes r.1 r.2) run (n + rs.length)
  | [], n, r => by simp [catS]
  | x :: rs, n, r => by
    rw [List.cons_append, catS, catS_snoc run rs (n + 1) r, catS, List.append_assoc, List.length_cons, show n + 1 + rs.length = n + (rs.length + 1) by omega]
theorem catS_len (run : Nat) : ∀ (rs : List (Int × List Wr)) (n : Nat), (∀ r ∈ rs, rOk r.1 r.2 = true) → rs.length ≤ (catS run n rs).length ∧ (catS run n rs).length ≤ 116 * rs.length
  | [], _, _ => by simp [catS]
  | r :: rs, n, h => by
    have h1 := catS_len run rs (n + 1) (fun x hx => h x (List.mem_cons_of_mem _ hx))
    have h2 := nParts_ok (h r List.mem_cons_self)
    rw [catS, List.length_append, secs_len, List.length_cons]
    omega
theorem catS_size (run : Nat) : ∀ (rs : List (Int × List Wr)) (n : Nat) (s : ByteArray), s ∈ catS run n rs → s.size = 32
  | [], _, s, h => by cases h
  | r :: rs, n, s, h => by
    rw [catS] at h
    rcases List.mem_append.1 h with h | h
    · exact secs_size h
    · exact catS_size run rs (n + 1) s h
end Go.Proofs.Ytaelgappabecgaa
