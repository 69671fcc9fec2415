/- Sweep where blocks do not lie; how far one goes at most. -/
import Derived.Test.YtceppcmcokkkoaaSF
namespace Go.Proofs.Ytceppcmcokkkoaa
open Go.RowKit

theorem sweep_no (A : Option Addr) (c : Nat) (f p : Int) (l : List Int) (w : World) (hl : l.length ≤ 1000) (hi : Ints w w.heap.size A l) (hf : fitB f l p = false) :
    Calls Try.prog 24 #[.int .i64 f, .slice A l.length c, .int .i64 p] w fun e w' => e = .returned (.tuple #[.slice none 0 0, .int .i64 2]) ∧ Below w.heap.size w w' := by
  have Hlay := Lib.hid (lay_any A c f p l w hl hi)
  have Hf := Lib.hid hf
  clear hf
  go_enter Try.func24, Try.ntmps24
  go_wp2_with fail
  refine Hlay.out.mono ?_
  rintro e w1 ⟨hB1, ⟨hf, _⟩ | ⟨_, rfl⟩⟩
  · exact absurd hf (by rw [Hf.out]; decide)
  · go_wp2
    go_ret2
    exact ⟨rfl, hB1⟩
theorem div_sum : ∀ n : Fin 65, 1 ≤ n.val → 1023 / n.val + n.val ≤ 1024 := by decide
theorem far_1023 (i j n : Nat) (hi : i < 1024) (hj : j < 1024) (hn : 1 ≤ n) (hn64 : n ≤ 64) : far i j n ≤ 1023 := by
  have h0 := div_sum ⟨n, by omega⟩ hn
  have h1 : i / n ≤ 1023 / n := Nat.div_le_div_right (by omega)
  have h2 : j / n ≤ 1023 / n := Nat.div_le_div_right (by omega)
  have h3 : i % n < n := Nat.mod_lt _ (by omega)
  have h4 : j % n < n := Nat.mod_lt _ (by omega)
  unfold far
  generalize i / n = a at *
  generalize j / n = b at *
  generalize i % n = c at *
  generalize j % n = d at *
  generalize 1023 / n = m at *
  have h5 : m + n ≤ 1024 := h0
  omega
theorem goes_1024 {f : Nat} {l : List Int} {n : Nat} (h : Lies f l n) {k : Nat} (hk : k ≤ l.length) : goes f l n k ≤ 1024 * k := by
  induction k with
  | zero => simp [goes]
  | succ j ih =>
    have h1 := ih (by omega)
    have h2 := far_1023 (stands f l j) (nn l j) n (h.stands_lt (by omega)) (h.at_ j hk).2 h.lo h.hi
    rw [goes_succ]
    omega
theorem count_take (q : List Nat) (k x : Nat) (h : k < q.length) : (q.take (k + 1)).count x = (q.take k).count x + (if el q k = x then 1 else 0) := by
  rw [take_el q k h, List.count_append]
  by_cases e : el q k = x
  · rw [if_pos e, e]; simp
  · rw [if_neg e]; simp [e]
/-- how far one goes over a sweep -/
theorem route_of (A : Option Addr) (c m i n : Nat) (p : Int) (hp : p = (n : Int)) (q : List Nat) (w : World) (hm : m = q.length) (hl : q.length ≤ 1000) (hi : i < 1024) (h1n : 1 ≤ n) (hn : n ≤ 64) (hq : ∀ x ∈ q, x < 1024) (hI : Ints w w.heap.size A (natsI q)) :
    Calls Try.prog 19 #[.int .i64 (i : Int), .slice A m c, .int .i64 p] w fun e w' => (∃ r : Nat, r ≤ 1024 * q.length ∧ e = .returned (.tuple #[.int .i64 (r : Int), .int .i64 0])) ∧ Below w.heap.size w w' := by
  subst hp hm
  have h := route_any A c (i : Int) (n : Int) (natsI q) w (by rw [length_natsI]; exact hl) hI
  rw [length_natsI] at h
  refine h.mono ?_
  rintro e w' hs
  have hL := lies_of hi h1n hn hq
  have hf := lies_fit hL
  refine ⟨⟨goes i (natsI q) n q.length, by have := goes_1024 hL (k := q.length) (by rw [length_natsI]; exact Nat.le_refl _); exact this, ?_⟩, hs.1⟩
  rw [hs.val, if_pos hf, if_pos hf, Int.toNat_natCast, Int.toNat_natCast, length_natsI]
end Go.Proofs.Ytceppcmcokkkoaa
