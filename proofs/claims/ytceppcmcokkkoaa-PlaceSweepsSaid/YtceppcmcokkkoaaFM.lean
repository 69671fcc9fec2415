/- Contracts of Next, and of the document's own, for every list. -/
import Derived.Test.YtceppcmcokkkoaaFL
namespace Go.Proofs.Ytceppcmcokkkoaa
open Go.RowKit

def NextSays (w : World) (f : Int) (l : List Int) (p : Int) (e : Ending) (w' : World) : Prop :=
  Below w.heap.size w w' ∧ ((fitB f l p = true ∧ 1 ≤ l.length ∧ e = .returned (.tuple #[.int .i64 (bestOf (farFrom f.toNat l p.toNat) l.length : Nat), .bool true])) ∨ ((fitB f l p = false ∨ l.length = 0) ∧ e = .returned (.tuple #[.int .i64 0, .bool false])))

set_option maxRecDepth 100000 in
set_option maxHeartbeats 1000000 in
theorem next_any (A : Option Addr) (c : Nat) (f p : Int) (l : List Int) (w : World) (hl : l.length ≤ 1000) (hi : Ints w w.heap.size A l) :
    Calls Try.prog 21 #[.int .i64 f, .slice A l.length c, .int .i64 p] w (NextSays w f l p) := by
  have Hlay := Lib.hid (lay_any A c f p l w hl hi)
  go_enter Try.func21, Try.ntmps21
  go_wp2_with fail
  refine Hlay.out.mono ?_
  rintro e w1 ⟨hB1, ⟨hf, rfl, hblk⟩ | ⟨hf, rfl⟩⟩
  · by_cases h0 : l.length = 0
    · have HX : Hid (NextSays w f l p (.returned (.tuple #[.int .i64 0, .bool false])) w1) := ⟨hB1, .inr ⟨.inr h0, rfl⟩⟩
      obtain ⟨xf, yf, hpf⟩ := plV_form f.toNat p.toNat
      rw [hpf]
      clear hpf hf hblk
      have hl0 : (l.length == 0) = true := by rw [h0]; rfl
      have hl0' : ((l.length : Int) == 0) = true := by rw [h0]; rfl
      clear h0
      go_wp2
      go_ret2
      exact HX.out
    · have h1 : 1 ≤ l.length := by omega
      obtain ⟨i, n, e1, e2, hL⟩ := fit_lies hf
      have hp := hblk.places hblk.lt
      have Hfin : Hid (∀ x : Nat, x = bestOf (farFrom i l n) l.length → NextSays w f l p (.returned (.tuple #[.int .i64 (x : Int), .bool true])) w1) := fun x hx => ⟨hB1, .inl ⟨hf, h1, by rw [hx, e1, e2, Int.toNat_natCast, Int.toNat_natCast]⟩⟩
      rw [e1, e2, Int.toNat_natCast, Int.toNat_natCast]
      rw [e2, Int.toNat_natCast] at hp
      have HN := Lib.hid (fun W (h : w1 = W) => nearest_any (some ⟨w.heap.size, 0, none⟩) l.length i l.length n (nn l) W W.heap.size hl hL.from_ (fun j hj => (hL.at_ j hj).2) hL.lo hL.hi (by rw [← h]; exact hp))
      obtain ⟨xf, yf, hpf⟩ := plV_form i n
      rw [hpf] at HN ⊢
      obtain ⟨x, hx⟩ : ∃ x, x = bestOf (farFrom i l n) l.length := ⟨_, rfl⟩
      have hx2 : bestOf (fun j => far i (nn l j) n) l.length = x := hx.symm
      rw [hx2] at HN
      have HX := Lib.hid (Hfin.out x hx)
      have hl0 : (l.length == 0) = false := by rw [beq_eq_false_iff_ne]; omega
      have hl0' : ((l.length : Int) == 0) = false := by rw [beq_eq_false_iff_ne]; omega
      clear h0 hf e1 e2 hL hp hblk hpf hx hx2
      go_wp2_with fail
      refine (HN.out _ rfl).mono ?_
      rintro e w' ⟨rfl, rfl⟩
      go_wp2
      go_ret2
      exact HX.out
  · have HX : Hid (NextSays w f l p (.returned (.tuple #[.int .i64 0, .bool false])) w1) := ⟨hB1, .inr ⟨.inl hf, rfl⟩⟩
    clear hf
    go_wp2
    go_ret2
    exact HX.out

theorem refroute_any (A : Option Addr) (c : Nat) (f p : Int) (l : List Int) (w : World) (hl : l.length ≤ 1000) (hi : Ints w w.heap.size A l) :
    Calls Try.prog 20 #[.int .i64 f, .slice A l.length c, .int .i64 p] w (RouteSays w f l p) := by
  cases h : fitB f l p with
  | true =>
    obtain ⟨i, n, rfl, rfl, hL⟩ := fit_lies h
    exact (refroute_yes A c i n l w hl hi hL).mono fun e w' ⟨he, hB⟩ => ⟨hB, .inl ⟨h, he⟩⟩
  | false => exact (refroute_no A c f p l w hl hi h).mono fun e w' ⟨he, hB⟩ => ⟨hB, .inr ⟨h, he⟩⟩
theorem refnext_any (A : Option Addr) (c : Nat) (f p : Int) (l : List Int) (w : World) (hl : l.length ≤ 1000) (hi : Ints w w.heap.size A l) :
    Calls Try.prog 22 #[.int .i64 f, .slice A l.length c, .int .i64 p] w (NextSays w f l p) := by
  by_cases h0 : l.length = 0
  · rw [h0]
    exact (refnext_none A c f p w).mono fun e w' ⟨he, hB⟩ => ⟨hB, .inr ⟨.inr h0, he⟩⟩
  cases h : fitB f l p with
  | true =>
    obtain ⟨i, n, rfl, rfl, hL⟩ := fit_lies h
    exact (refnext_yes A c i n l w hl (by omega) hi hL).mono fun e w' ⟨he, hB⟩ => ⟨hB, .inl ⟨h, by omega, he⟩⟩
  | false => exact (refnext_no A c f p l w hl (by omega) hi h).mono fun e w' ⟨he, hB⟩ => ⟨hB, .inr ⟨.inl h, he⟩⟩

/-- what two answers say, being of the same question, is the same -/
theorem RouteSays.val {w w' : World} {f p : Int} {l : List Int} {e : Ending} (h : RouteSays w f l p e w') :
    e = .returned (.tuple #[.int .i64 (if fitB f l p = true then ((goes f.toNat l p.toNat l.length : Nat) : Int) else 0), .int .i64 (if fitB f l p = true then 0 else 2)]) := by
  rcases h.2 with ⟨hf, rfl⟩ | ⟨hf, rfl⟩
  · rw [if_pos hf, if_pos hf]
  · rw [if_neg (by rw [hf]; decide), if_neg (by rw [hf]; decide)]
theorem NextSays.val {w w' : World} {f p : Int} {l : List Int} {e : Ending} (h : NextSays w f l p e w') :
    e = .returned (.tuple #[.int .i64 (if fitB f l p = true ∧ l.length ≠ 0 then ((bestOf (farFrom f.toNat l p.toNat) l.length : Nat) : Int) else 0), .bool (decide (fitB f l p = true ∧ l.length ≠ 0))]) := by
  rcases h.2 with ⟨hf, h1, rfl⟩ | ⟨hf, rfl⟩
  · have : fitB f l p = true ∧ l.length ≠ 0 := ⟨hf, by omega⟩
    rw [if_pos this, decide_eq_true this]
  · have : ¬ (fitB f l p = true ∧ l.length ≠ 0) := by
      rintro ⟨h1, h2⟩
      rcases hf with h3 | h3
      · rw [h3] at h1; cases h1
      · exact h2 h3
    rw [if_neg this, decide_eq_false this]
end Go.Proofs.Ytceppcmcokkkoaa
