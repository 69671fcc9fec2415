/- The first forty of numbers that came in. -/
import Derived.Test.YtceppcmcokkkoaaFM
import Derived.Test.YtceppcmcokkkoaaZ
namespace Go.Proofs.Ytceppcmcokkkoaa
open Go.RowKit

theorem few18_any (A : Option Addr) (n c : Nat) (w : World) (hn : n ≤ c) (hc : c ≤ maxLen) :
    Calls Try.prog 18 #[.slice A n c] w fun e w' => e = .returned (.slice A (min n 40) c) ∧ w = w' := by
  unfold maxLen at hc
  by_cases h : 40 < n
  · have e : min n 40 = 40 := by omega
    rw [e]
    have h1 : (40 : Int) < (n : Int) := by omega
    have h2 : 40 ≤ c := by omega
    clear e
    go_enter Try.func18, Try.ntmps18
    go_wp2
    go_ret
    exact ⟨rfl, rfl⟩
  · have e : min n 40 = n := by omega
    rw [e]
    have h1 : ¬ (40 : Int) < (n : Int) := by omega
    clear e
    go_enter Try.func18, Try.ntmps18
    go_wp2
    go_ret
    exact ⟨rfl, rfl⟩

theorem few_ints {w : World} {a : Option Addr} {len cap : Nat} {zs : List Int} (h : IsRow .i64 w a len cap zs) :
    ∃ l, l.length ≤ 40 ∧ l.length ≤ cap ∧ cap ≤ maxLen ∧ Ints w w.heap.size a l ∧ inI l ∧ Calls Try.prog 18 #[.slice a len cap] w fun e w' => e = .returned (.slice a l.length cap) ∧ w = w' := by
  obtain ⟨h1, h2, h3, h4, h5⟩ := h.ints
  have hl : ((zs.take len).take 40).length = min len 40 := by rw [List.length_take, h4, Nat.min_comm]
  refine ⟨(zs.take len).take 40, by omega, by omega, h2, h3.take 40, fun x hx => h5 x (List.mem_of_mem_take hx), ?_⟩
  rw [hl]
  exact few18_any a len cap w h1 h2
end Go.Proofs.Ytceppcmcokkkoaa
