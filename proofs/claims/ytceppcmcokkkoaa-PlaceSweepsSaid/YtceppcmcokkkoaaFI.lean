/- Contracts of the document's own fits. -/
import Derived.Test.YtceppcmcokkkoaaFH
import Derived.Test.YtceppcmcokkkoaaQ
namespace Go.Proofs.Ytceppcmcokkkoaa
open Go.RowKit

/-- may a block lie so? -/
def okB (b p : Int) : Bool := decide (0 ≤ b) && decide (b < 1024) && decide (1 ≤ p) && decide (p ≤ 64)
/-- may a block lie so, and some others? -/
def fitB (f : Int) (l : List Int) (p : Int) : Bool := okB f p && l.all fun x => okB x p
theorem okB_yes {b p : Int} (h : okB b p = true) : ∃ i n : Nat, b = (i : Int) ∧ p = (n : Int) ∧ i < 1024 ∧ 1 ≤ n ∧ n ≤ 64 := by
  unfold okB at h
  simp at h
  exact ⟨b.toNat, p.toNat, by omega, by omega, by omega, by omega, by omega⟩
theorem okB_no {b p : Int} (h : okB b p = false) : b < 0 ∨ 1024 ≤ b ∨ p < 1 ∨ 64 < p := by
  unfold okB at h
  simp at h
  omega
theorem fitB_from {f : Int} {l : List Int} {p : Int} (h : fitB f l p = true) : okB f p = true := by
  unfold fitB at h
  simp at h
  exact h.1
theorem fitB_nth {f : Int} {l : List Int} {p : Int} (h : fitB f l p = true) {k : Nat} (hk : k < l.length) : okB (nth l k) p = true := by
  unfold fitB at h
  simp at h
  rw [nth_lt hk]
  exact h.2 _ (List.getElem_mem hk)
theorem fitB_nil (f p : Int) : fitB f [] p = okB f p := by simp [fitB]
theorem fitB_snoc (f : Int) (l : List Int) (p : Int) (k : Nat) (hk : k < l.length) : fitB f (l.take (k + 1)) p = (fitB f (l.take k) p && okB (nth l k) p) := by
  have e : l.take (k + 1) = l.take k ++ [nth l k] := by
    rw [List.take_succ_eq_append_getElem hk, nth_lt hk]
  rw [e]
  simp [fitB, Bool.and_assoc]
theorem fitB_take {f : Int} {l : List Int} {p : Int} (k : Nat) (h : fitB f (l.take k) p = false) : fitB f l p = false := by
  cases h2 : fitB f l p with
  | false => rfl
  | true =>
    unfold fitB at h h2
    simp at h h2
    obtain ⟨x, hx, h3⟩ := h h2.1
    rw [h2.2 x (List.mem_of_mem_take hx)] at h3
    cases h3

theorem refat_t (b p : Int) (h : okB b p = true) (w : World) :
    Calls Try.prog 62 #[.int .i64 b, .int .i64 p] w fun e w' => (∃ x y, e = .returned (.tuple #[.agg #[.float .f64 x, .float .f64 y], .int .i64 0])) ∧ Below w.heap.size w w' := by
  obtain ⟨i, n, rfl, rfl, h1, h2, h3⟩ := okB_yes h
  exact (refat_yes i n h1 h2 h3 w).mono fun _ _ ⟨h, k⟩ => ⟨⟨_, _, h⟩, k⟩
theorem refat_f (b p : Int) (h : okB b p = false) (w : World) :
    Calls Try.prog 62 #[.int .i64 b, .int .i64 p] w fun e w' => (∃ x y, e = .returned (.tuple #[.agg #[.float .f64 x, .float .f64 y], .int .i64 2])) ∧ Below w.heap.size w w' :=
  (refat_no b p (okB_no h) w).mono fun _ _ ⟨h, k⟩ => ⟨⟨_, _, h⟩, k⟩

set_option maxRecDepth 100000 in
set_option maxHeartbeats 1000000 in
theorem fits_any (A : Option Addr) (c : Nat) (f : Int) (l : List Int) (p : Int) (w : World) (hl : l.length ≤ 1000) (hi : Ints w w.heap.size A l) :
    Calls Try.prog 49 #[.int .i64 f, .slice A l.length c, .int .i64 p] w fun e w' => e = .returned (.bool (fitB f l p)) ∧ Below w.heap.size w w' := by
  have hst := fun (W : World) (a : Addr) (m : Mode) (x : Nat) => run_store_float Try.prog W a m .f64 x
  have HI := Lib.hid hi
  clear hi
  cases hok : okB f p with
  | true =>
    have Hok := Lib.hid hok
    clear hok
    go_enter Try.func49, Try.ntmps49
    go_wp2_with fail
    refine (refat_t f p Hok.out _).mono ?_
    rintro e w1 ⟨⟨x, y, rfl⟩, hB1⟩
    go_wp2
    have hB2 : Below w.heap.size w (w1.alloc (.cells #[.float .f64 x, .float .f64 y] 84)) := hB1.alloc hB1.size _
    go_loopw [8, 9] (fun e i wr => ∃ k : Nat, k ≤ l.length ∧ i = .int .i64 k ∧ ((fitB f (l.take k) p = true ∧ e = .int .i64 0) ∨ (fitB f (l.take k) p = false ∧ e = .int .i64 2)) ∧ Below w.heap.size w wr) (fun _ i _ => l.length - (intOf i).toNat)
    case atStart => exact ⟨0, Nat.zero_le _, rfl, .inl ⟨by rw [List.take_zero, fitB_nil]; exact Hok.out, rfl⟩, hB2⟩
    case round =>
      obtain ⟨k, hk, rfl, he, hB⟩ := hrel
      rename World => wr
      by_cases hlt : k < l.length
      · have hlti : (k : Int) < (l.length : Int) := by omega
        have hk0 : (0 : Int) ≤ (k : Int) := by omega
        rcases he with ⟨hf, rfl⟩ | ⟨hf, rfl⟩
        · obtain ⟨b, off, rfl, hb, hc⟩ := HI.out.at_ hlt
          have hc2 : wr.cell? ⟨b, off + k, none⟩ = some (.int .i64 (nth l k)) := (hB.cell hb).trans hc
          clear hc
          have Hf := Lib.hid hf
          clear hf
          cases hn : okB (nth l k) p with
          | true =>
            have Hn := Lib.hid hn
            clear hn
            go_wp2_with fail
            refine (refat_t _ p Hn.out _).mono ?_
            rintro e w3 ⟨⟨x3, y3, rfl⟩, hB3⟩
            go_wp2
            go_roundw
            case rel => exact ⟨k + 1, by omega, by go_num, .inl ⟨by rw [fitB_snoc _ _ _ _ hlt, Hf.out, Hn.out]; rfl, rfl⟩, hB.trans (hB3.mono hB.size)⟩
            case measure => simp [intOf]; omega
          | false =>
            have Hn := Lib.hid hn
            clear hn
            go_wp2_with fail
            refine (refat_f _ p Hn.out _).mono ?_
            rintro e w3 ⟨⟨x3, y3, rfl⟩, hB3⟩
            go_wp2
            go_roundw
            case rel => exact ⟨k + 1, by omega, by go_num, .inr ⟨by rw [fitB_snoc _ _ _ _ hlt, Hf.out, Hn.out]; rfl, rfl⟩, hB.trans (hB3.mono hB.size)⟩
            case measure => simp [intOf]; omega
        · have Hf := Lib.hid (fitB_take k hf)
          clear hf
          go_wp2
          go_ret
          exact ⟨ret_bool Hf.out.symm, hB⟩
      · have hlti : ¬ (k : Int) < (l.length : Int) := by omega
        have hke : k = l.length := by omega
        subst hke
        rw [List.take_length] at he
        rcases he with ⟨hf, rfl⟩ | ⟨hf, rfl⟩
        · have Hf := Lib.hid hf
          clear hf
          go_wp2
          go_ret
          exact ⟨ret_bool Hf.out.symm, hB⟩
        · have Hf := Lib.hid hf
          clear hf
          go_wp2
          go_ret
          exact ⟨ret_bool Hf.out.symm, hB⟩
  | false =>
    have hf : fitB f l p = false := by unfold fitB; rw [hok]; rfl
    rw [hf]
    have Hok := Lib.hid hok
    clear hok hf
    go_enter Try.func49, Try.ntmps49
    go_wp2_with fail
    refine (refat_f f p Hok.out _).mono ?_
    rintro e w1 ⟨⟨x, y, rfl⟩, hB1⟩
    have hB2 : Below w.heap.size w (w1.alloc (.cells #[.float .f64 x, .float .f64 y] 84)) := hB1.alloc hB1.size _
    go_wp2
    go_loopw [8, 9] (fun e i wr => e = .int .i64 2 ∧ i = .int .i64 0 ∧ wr = (w1.alloc (.cells #[.float .f64 x, .float .f64 y] 84))) (fun _ _ _ => 0)
    case atStart => exact ⟨rfl, rfl, rfl⟩
    case round =>
      obtain ⟨rfl, rfl, rfl⟩ := hrel
      by_cases hlt : 0 < l.length
      · have hd : decide (0 < l.length) = true := by simpa using hlt
        have HD := Lib.hid hB2
        clear hB2
        go_wp2
        go_ret
        exact ⟨rfl, HD.out⟩
      · have hd : decide (0 < l.length) = false := by simpa using hlt
        have HD := Lib.hid hB2
        clear hB2
        go_wp2
        go_ret
        exact ⟨rfl, HD.out⟩
end Go.Proofs.Ytceppcmcokkkoaa
