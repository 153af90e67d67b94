/- Contract of layer 4's Heavy: what is not heavy is small. -/
import Derived.Test.YthkpeddgcglpcaaWaitP
namespace Go.Proofs.Ythkpeddgcglpcaa
open Go.RowKit

/-- The slice v holds the waits P, of whatever length. -/
def WvRaw (w : World) (v : Value) (P : List Wv) : Prop :=
  (∃ p cap, v = .slice p P.length cap ∧ P.length ≤ cap ∧ ∀ i, i < P.length → ∃ b off, p = some ⟨b, off, none⟩ ∧ b < w.heap.size ∧ w.cell? ⟨b, off + i * 2, none⟩ = some (.int .i64 (P.getD i default).o) ∧ w.cell? ⟨b, off + i * 2 + 1, none⟩ = some (P.getD i default).v) ∧
  ∀ x ∈ P, ∃ p cap, x.v = .slice p x.f.length cap ∧ x.f.length ≤ cap ∧ ∀ i, i < x.f.length → ∃ b off, p = some ⟨b, off, none⟩ ∧ b < w.heap.size ∧ w.cell? ⟨b, off + i, none⟩ = some (.int .i64 (x.f.getD i 0))
theorem WvRaw.at {w : World} {v : Value} {P : List Wv} (h : WvRaw w v P) (hl : P.length ≤ 1000000) (hf : ∀ x ∈ P, x.f.length ≤ 1000000) : WvAt w v P :=
  ⟨hl, h.1, fun x hx => ⟨hf x hx, h.2 x hx⟩⟩

/-- The lists of waits of an argument. -/
def LLAt (w : World) (v : Value) (nl : Nat) (F : Nat → List Wv) : Prop :=
  ∃ p cap, v = .slice p nl cap ∧ nl ≤ 140737488355328 ∧ ∀ i, i < nl → ∃ b off u, p = some ⟨b, off, none⟩ ∧ b < w.heap.size ∧ w.cell? ⟨b, off + i, none⟩ = some u ∧ WvRaw w u (F i) ∧ (F i).length ≤ 140737488355328 ∧ ∀ x ∈ F i, x.f.length ≤ 140737488355328
def Small (nl : Nat) (F : Nat → List Wv) : Prop := ∀ i, i < nl → (F i).length ≤ 400 ∧ ∀ x ∈ F i, x.f.length ≤ 400
def Inv (F : Nat → List Wv) (k : Nat) (m : Int) : Prop := m ≤ 400 → Small k F
def Inv2 (F : Nat → List Wv) (k j : Nat) (m : Int) : Prop := m ≤ 400 → Small k F ∧ (F k).length ≤ 400 ∧ ∀ t x, t < j → (F k)[t]? = some x → x.f.length ≤ 400

def HeavyPost (nl : Nat) (F : Nat → List Wv) (w : World) (e : Ending) (w' : World) : Prop := (∃ b, e = .returned (.bool b) ∧ (b = false → Small nl F)) ∧ Below w.heap.size w w'

set_option maxRecDepth 100000 in
set_option maxHeartbeats 2000000 in
theorem heavy4_any (w : World) (lv : Value) (nl : Nat) (F : Nat → List Wv) (pa pn : Option Addr) (na nn ca cn : Nat) (h : LLAt w lv nl F) (hna : na ≤ 140737488355328) (hnn : nn ≤ 140737488355328) :
    Calls Try.prog 7 #[.agg #[lv, .slice pa na ca, .slice pn nn cn]] w (HeavyPost nl F w) := by
  obtain ⟨p, cap, rfl, hnl, ht⟩ := h
  have H := Lib.hid ht
  clear ht
  go_enter Try.func7, Try.ntmps7
  go_wp2
  go_loop [3, 4] (fun n i => ∃ (m : Int) (k : Nat), k ≤ nl ∧ n = .int .i64 m ∧ i = .int .i64 k ∧ 0 ≤ m ∧ m ≤ 1125899906842624 ∧ Hid (Inv F k m)) (fun _ i => nl - (intOf i).toNat)
  case atStart => exact ⟨_, 0, Nat.zero_le _, rfl, rfl, by omega, by omega, Lib.hid (fun _ i hi => absurd hi (Nat.not_lt_zero _))⟩
  case round =>
    obtain ⟨m, k, hk, rfl, rfl, hm0, hm1, HI⟩ := hrel
    by_cases hlt : k < nl
    · by_cases hm : m < 1048576
      · obtain ⟨b, off, u, rfl, hb, hc, hW, hl1, hl2⟩ := H.out k hlt
        have hbL : Lt b w.heap.size := hb
        obtain ⟨⟨q, qc, rfl, -, hq⟩, hfr⟩ := hW
        have HQ := Lib.hid hq
        have HFR := Lib.hid hfr
        have HL2 := Lib.hid hl2
        clear hq hfr hl2 hb
        generalize hn : (F k).length = n at *
        have HN := Lib.hid hn
        clear hn
        go_wp2_with fail
        go_loop [3, 5] (fun s i => ∃ (m' : Int) (j : Nat), j ≤ n ∧ s = .int .i64 m' ∧ i = .int .i64 j ∧ 0 ≤ m' ∧ m' ≤ 1125899906842624 ∧ Hid (Inv2 F k j m')) (fun _ i => n - (intOf i).toNat)
        case atStart =>
          refine ⟨_, 0, Nat.zero_le _, rfl, rfl, by omega, by omega, Lib.hid (fun h4 => ⟨HI.out (by omega), by rw [HN.out]; omega, fun t x ht => absurd ht (Nat.not_lt_zero _)⟩)⟩
        case round =>
          obtain ⟨m', j, hj, rfl, rfl, hm0', hm1', HJ⟩ := hrel
          by_cases hlt2 : j < n
          · by_cases hmm : m' < 1048576
            · obtain ⟨b2, off2, rfl, hb2, hco, hcv⟩ := HQ.out j hlt2
              have hbL2 : Lt b2 w.heap.size := hb2
              have hgx : (F k)[j]? = some ((F k).getD j default) := by
                have : j < (F k).length := by rw [HN.out]; exact hlt2
                simp [List.getD, this]
              have hxm := List.mem_of_getElem? hgx
              generalize (F k).getD j default = x at *
              obtain ⟨q2, c2, hv, -⟩ := HFR.out x hxm
              have hx2 := HL2.out x hxm
              have HGX := Lib.hid hgx
              rw [hv] at hcv
              clear hv hxm hgx hb2
              generalize hf : x.f.length = fl at *
              have HFL := Lib.hid hf
              clear hf
              go_wp2
              go_round
              case rel => exact ⟨_, j + 1, by omega, rfl, by go_num, by omega, by omega, Lib.hid (fun h4 => by
                have h5 := HJ.out (by omega)
                refine ⟨h5.1, h5.2.1, fun t y ht hy => ?_⟩
                by_cases htj : t = j
                · subst htj
                  have : y = x := by have := HGX.out; rw [hy] at this; exact Option.some.inj this
                  rw [this, HFL.out]; omega
                · exact h5.2.2 t y (by omega) hy)⟩
              case measure => simp [intOf]; omega
            · go_wp2
              go_round
              case rel => exact ⟨m', k + 1, by omega, rfl, by go_num, by omega, by omega, Lib.hid (fun h4 => absurd h4 (by omega))⟩
              case measure => simp [intOf]; omega
          · have ej : j = n := by omega
            have HE : Hid (Inv F (k + 1) m') := Lib.hid (fun h4 i hi => by
              have h5 := HJ.out h4
              by_cases hik : i = k
              · subst hik
                refine ⟨h5.2.1, fun x hx => ?_⟩
                obtain ⟨t, ht, e⟩ := List.getElem_of_mem hx
                exact h5.2.2 t x (by rw [ej, ← HN.out]; exact ht) (by rw [List.getElem?_eq_getElem ht, e])
              · exact h5.1 i (by omega))
            clear ej
            go_wp2
            go_round
            case rel => exact ⟨m', k + 1, by omega, rfl, by go_num, by omega, by omega, HE⟩
            case measure => simp [intOf]; omega
      · go_wp2
        go_ret
        exact ⟨⟨_, rfl, fun h => absurd h (by simp; omega)⟩, by (repeat (first | exact Below.refl _ _ | assumption | refine nw_more ?_ _ _ | refine nw_alloc ?_ _ | refine nw_drew ?_ | refine nw_drewN ?_ _ | refine nw_set ?_ (by first | (simp; done) | (simp; omega) | omega) _))⟩
    · have e : k = nl := by omega
      by_cases h4 : m ≤ 400
      · have HS : Hid (Small nl F) := Lib.hid (by rw [← e]; exact HI.out h4)
        clear e
        go_wp2
        go_ret
        exact ⟨⟨_, rfl, fun _ => HS.out⟩, by (repeat (first | exact Below.refl _ _ | assumption | refine nw_more ?_ _ _ | refine nw_alloc ?_ _ | refine nw_drew ?_ | refine nw_drewN ?_ _ | refine nw_set ?_ (by first | (simp; done) | (simp; omega) | omega) _))⟩
      · clear e
        go_wp2
        go_ret
        exact ⟨⟨_, rfl, fun h => absurd h (by simp)⟩, by (repeat (first | exact Below.refl _ _ | assumption | refine nw_more ?_ _ _ | refine nw_alloc ?_ _ | refine nw_drew ?_ | refine nw_drewN ?_ _ | refine nw_set ?_ (by first | (simp; done) | (simp; omega) | omega) _))⟩
end Go.Proofs.Ythkpeddgcglpcaa
