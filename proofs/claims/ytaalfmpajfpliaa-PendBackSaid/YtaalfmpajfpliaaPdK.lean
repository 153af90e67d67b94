/- Contracts: Put and Save, of all cases. No condition. -/
import Derived.Test.YtaalfmpajfpliaaPdHv
namespace Go.Proofs.Ytaalfmpajfpliaa
open Go.RowKit

def PutOut (w : World) (l : List Wr) (ms : List Int) (x : Wr) (e : Ending) (w' : World) : Prop :=
  ∃ (p : Option Addr) (n c : Nat) (q : Option Addr) (m d : Nat) (f : Int), e = .returned (pdTwo (.slice p n c) (.slice q m d) f) ∧ (f = 0 → wOk x = true ∧ l.length < 12 ∧ OwnW w.heap.size w' (.slice p n c) (l ++ [x]) ∧ OwnN w.heap.size w' (.slice q m d) ms) ∧ Below w.heap.size w w'
theorem put_any (w : World) (u v : Value) (l : List Wr) (ms : List Int) (t : Int) (k s : ByteArray) (g : Bool) (hks : k.size ≤ 140737488355328) (hs : s.size ≤ 140737488355328) (hok : pOk l ms = true) (hw : WsAt w u l) (hm : IntsAt w v ms) :
    Calls Try.prog 9 #[.agg #[u, v], .agg #[.int .i64 t, .string k, .string s, .bool g]] w fun e w' => PutOut w l ms ⟨t, k, s, g⟩ e w' := by
  cases hx : wOk ⟨t, k, s, g⟩
  · exact (put_bad w u v l ms t k s g hks hs hx hok hw hm).mono fun e w' ⟨he, hb⟩ => ⟨none, 0, 0, none, 0, 0, 1, he, fun h => absurd h (by decide), hb⟩
  · by_cases hl : l.length < 12
    · refine (put_ok w u v l ms t k s g hks hs hx hl hok hw hm).mono fun e w' ⟨u', v', he, hu, hv, hb⟩ => ?_
      obtain ⟨p, c, rfl⟩ := hu.slice
      obtain ⟨q, d, rfl⟩ := hv.slice
      exact ⟨p, _, c, q, _, d, 0, he, fun _ => ⟨hx, hl, hu, hv⟩, hb⟩
    · exact (put_full w u v l ms t k s g hks hs hx (by omega) hok hw hm).mono fun e w' ⟨he, hb⟩ => ⟨none, 0, 0, none, 0, 0, 2, he, fun h => absurd h (by decide), hb⟩
def SaveOut (w : World) (l : List Wr) (ms : List Int) (e : Ending) (w' : World) : Prop :=
  ∃ (p : Option Addr) (n c : Nat) (q : Option Addr) (m d : Nat) (i f : Int), e = .returned (pdThree (.slice p n c) (.slice q m d) i f) ∧ (f = 0 → ms.length < 6 ∧ OwnW w.heap.size w' (.slice p n c) l ∧ OwnN w.heap.size w' (.slice q m d) (ms ++ [(l.length : Int)])) ∧ Below w.heap.size w w'
theorem save_any (w : World) (u v : Value) (l : List Wr) (ms : List Int) (hok : pOk l ms = true) (hw : WsAt w u l) (hm : IntsAt w v ms) :
    Calls Try.prog 6 #[.agg #[u, v]] w fun e w' => SaveOut w l ms e w' := by
  by_cases hl : ms.length < 6
  · refine (save_ok w u v l ms hl hok hw hm).mono fun e w' ⟨u', v', he, hu, hv, hb⟩ => ?_
    obtain ⟨p, c, rfl⟩ := hu.slice
    obtain ⟨q, d, rfl⟩ := hv.slice
    exact ⟨p, _, c, q, _, d, _, 0, he, fun _ => ⟨hl, hu, hv⟩, hb⟩
  · exact (save_full w u v l ms (by omega) hok hw hm).mono fun e w' ⟨he, hb⟩ => ⟨none, 0, 0, none, 0, 0, 0, 2, he, fun h => absurd h (by decide), hb⟩
theorem release_of (w : World) (u v : Value) (l : List Wr) (ms : List Int) (i : Nat) (C : Int) (hC : C = i) (hn : i < ms.length) (hok : pOk l ms = true) (hw : WsAt w u l) (hm : IntsAt w v ms) :
    Calls Try.prog 10 #[.agg #[u, v], .int .i64 C] w fun e w' => ∃ u' v', e = .returned (pdTwo u' v' 0) ∧ OwnW w.heap.size w' u' l ∧ OwnN w.heap.size w' v' (ms.take i) ∧ Below w.heap.size w w' := by
  subst hC
  exact release_ok w u v l ms i hn hok hw hm
/-- The k-th act, read out. -/
theorem act_at {w : World} {pa : Option Addr} {N ac k : Nat} {f : Nat → Ac} (h : AcsAt w (.slice pa N ac) N f) (hk : k < N) : ∃ b off n t kk s g, pa = some ⟨b, off, none⟩ ∧ Lt b w.heap.size ∧ w.cell? ⟨b, off + k * 6 + 1, none⟩ = some (.int .i64 n) ∧ w.cell? ⟨b, off + k * 6 + 2, none⟩ = some (.int .i64 t) ∧ w.cell? ⟨b, off + k * 6 + 3, none⟩ = some (.string kk) ∧ w.cell? ⟨b, off + k * 6 + 4, none⟩ = some (.string s) ∧ w.cell? ⟨b, off + k * 6 + 5, none⟩ = some (.bool g) ∧ kk.size ≤ 140737488355328 ∧ s.size ≤ 140737488355328 := by
  obtain ⟨p, cap, e, -, ht⟩ := h.at
  simp only [Value.slice.injEq] at e
  obtain ⟨rfl, -, rfl⟩ := e
  exact ht k hk
end Go.Proofs.Ytaalfmpajfpliaa
