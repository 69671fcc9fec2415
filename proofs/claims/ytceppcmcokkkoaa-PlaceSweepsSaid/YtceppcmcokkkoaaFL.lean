/- Contracts of nearest, Route, Next. -/
import Derived.Test.YtceppcmcokkkoaaFK
namespace Go.Proofs.Ytceppcmcokkkoaa
open Go.RowKit

/-- a slice's address under which, below block B, the cells are places -/
def Places (w : World) (B : Nat) (A : Option Addr) (q : Nat → Nat) (m n : Nat) : Prop :=
  0 < m → ∃ b off, A = some ⟨b, off, none⟩ ∧ b < B ∧ ∀ j, j < m → w.cell? ⟨b, off + j, none⟩ = some (plV (q j) n)
theorem Places.keep {w w' : World} {B : Nat} {A : Option Addr} {q : Nat → Nat} {m n : Nat} (h : Places w B A q m n) (hk : ∀ p : Addr, p.block < B → w'.cell? p = w.cell? p) : Places w' B A q m n := fun hm => by
  obtain ⟨b, off, e, hb, hc⟩ := h hm
  exact ⟨b, off, e, hb, fun j hj => (hk _ hb).trans (hc j hj)⟩
theorem BlkIs.places {w : World} {g B n : Nat} {l : List Int} (h : BlkIs w g 34 (placed l n l.length)) (hB : g < B) : Places w B (some ⟨g, 0, none⟩) (nn l) l.length n := fun _ =>
  ⟨g, 0, rfl, hB, fun j hj => by rw [h.cell, Nat.zero_add, placed_at l n _ j hj, if_pos hj]⟩

set_option maxRecDepth 100000 in
set_option maxHeartbeats 1000000 in
theorem nearest_any (A : Option Addr) (c s m n : Nat) (q : Nat → Nat) (w : World) (B : Nat) (hm : m ≤ 1000) (hs : s < 1024) (hq : ∀ j, j < m → q j < 1024) (h2 : 1 ≤ n) (h3 : n ≤ 64) (hp : Places w B A q m n) :
    Calls Try.prog 51 #[plV s n, .slice A m c] w fun e w' => e = .returned (.int .i64 (bestOf (fun j => far s (q j) n) m : Nat)) ∧ w = w' := by
  obtain ⟨xs, ys, hps⟩ := plV_form s n
  have Hps := Lib.hid hps
  have HP := Lib.hid hp
  have HQ := Lib.hid hq
  rw [hps]
  clear hps hp hq
  obtain ⟨M, hM⟩ : ∃ M : Int, M = 9223372036854775807 := ⟨_, rfl⟩
  have hMb : (2000 : Int) < M := by omega
  have HM := Lib.hid hM
  clear hM
  go_enter Try.func51, Try.ntmps51
  go_wp2
  go_loop [5, 6, 12] (fun b t i => ∃ k : Nat, k ≤ m ∧ i = .int .i64 k ∧ ((k = 0 ∧ b = .int .i64 0 ∧ t = .int .i64 M) ∨ (1 ≤ k ∧ b = .int .i64 (bestOf (fun j => far s (q j) n) k : Nat) ∧ t = .int .i64 (far s (q (bestOf (fun j => far s (q j) n) k)) n : Nat)))) (fun _ _ i => m - (intOf i).toNat)
  case atStart => exact ⟨0, Nat.zero_le _, rfl, .inl ⟨rfl, rfl, by rw [HM.out]⟩⟩
  case round =>
    obtain ⟨k, hk, rfl, hrel⟩ := hrel
    by_cases hlt : k < m
    · have hlti : (k : Int) < (m : Int) := by omega
      have hk0 : (0 : Int) ≤ (k : Int) := by omega
      obtain ⟨b, off, rfl, hb, hc⟩ := HP.out (by omega)
      have hck := hc k hlt
      have HW := Lib.hid (fun W => way_of s (q k) n hs (HQ.out k hlt) h2 h3 W)
      have hfl := far_le s (q k) n hs (HQ.out k hlt) h2 h3
      obtain ⟨xk, yk, hpk⟩ := plV_form (q k) n
      obtain ⟨d, hd⟩ : ∃ d, d = far s (q k) n := ⟨_, rfl⟩
      rw [hpk] at HW hck
      rw [← hd] at HW hfl
      rw [Hps.out] at HW
      have Hd := Lib.hid hd
      clear hc hpk hd
      rcases hrel with ⟨rfl, rfl, rfl⟩ | ⟨h1k, rfl, rfl⟩
      · have hd1 : (d : Int) < M := by omega
        rw [Nat.add_zero] at hck
        go_wp2_with fail
        refine (HW.out _).mono ?_
        rintro e w' ⟨rfl, rfl⟩
        go_wp2
        go_round
        case rel => exact ⟨1, by omega, by go_num, .inr ⟨by omega, by rw [bestOf_one]; rfl, by rw [bestOf_one, ← Hd.out]⟩⟩
        case measure => simp [intOf]; omega
      · have hby := bestOf_yes (fun j => far s (q j) n) k h1k
        have hbn := bestOf_no (fun j => far s (q j) n) k h1k
        obtain ⟨t, ht⟩ : ∃ t, t = bestOf (fun j => far s (q j) n) k := ⟨_, rfl⟩
        obtain ⟨d2, hd2⟩ : ∃ d2, d2 = far s (q t) n := ⟨_, rfl⟩
        rw [← ht] at hby hbn ⊢
        rw [← hd2] at hby hbn ⊢
        have Hd2 := Lib.hid hd2
        clear ht hd2
        have e1 : (fun j => far s (q j) n) k = d := Hd.out.symm
        by_cases hdd : d < d2
        · have HE := Lib.hid (hby (by rw [← Hd.out]; exact hdd))
          have hddi : (d : Int) < (d2 : Int) := by omega
          clear hby hbn e1
          go_wp2_with fail
          refine (HW.out _).mono ?_
          rintro e w' ⟨rfl, rfl⟩
          go_wp2
          go_round
          case rel => exact ⟨k + 1, by omega, by go_num, .inr ⟨by omega, by rw [HE.out], by rw [HE.out, ← Hd.out]⟩⟩
          case measure => simp [intOf]; omega
        · have HE := Lib.hid (hbn (by rw [← Hd.out]; exact hdd))
          have hddi : ¬ (d : Int) < (d2 : Int) := by omega
          clear hby hbn e1
          go_wp2_with fail
          refine (HW.out _).mono ?_
          rintro e w' ⟨rfl, rfl⟩
          go_wp2
          go_round
          case rel => exact ⟨k + 1, by omega, by go_num, .inr ⟨by omega, by rw [HE.out], by rw [HE.out, ← Hd2.out]⟩⟩
          case measure => simp [intOf]; omega
    · have hlti : ¬ (k : Int) < (m : Int) := by omega
      obtain rfl : k = m := by omega
      rcases hrel with ⟨rfl, rfl, rfl⟩ | ⟨h1k, rfl, rfl⟩
      · go_wp2
        go_ret
        exact ⟨rfl, rfl⟩
      · go_wp2
        go_ret
        exact ⟨rfl, rfl⟩

def RouteSays (w : World) (f : Int) (l : List Int) (p : Int) (e : Ending) (w' : World) : Prop :=
  Below w.heap.size w w' ∧ ((fitB f l p = true ∧ e = .returned (.tuple #[.int .i64 (goes f.toNat l p.toNat l.length : Nat), .int .i64 0])) ∨ (fitB f l p = false ∧ e = .returned (.tuple #[.int .i64 0, .int .i64 2])))

set_option maxRecDepth 100000 in
set_option maxHeartbeats 1000000 in
theorem route_any (A : Option Addr) (c : Nat) (f p : Int) (l : List Int) (w : World) (hl : l.length ≤ 1000) (hi : Ints w w.heap.size A l) :
    Calls Try.prog 19 #[.int .i64 f, .slice A l.length c, .int .i64 p] w (RouteSays w f l p) := by
  have Hlay := Lib.hid (lay_any A c f p l w hl hi)
  go_enter Try.func19, Try.ntmps19
  go_wp2_with fail
  refine Hlay.out.mono ?_
  rintro e w1 ⟨hB1, ⟨hf, rfl, hblk⟩ | ⟨hf, rfl⟩⟩
  · obtain ⟨i, n, e1, e2, hL⟩ := fit_lies hf
    have hp := hblk.places hblk.lt
    have HF := Lib.hid hf
    have Hfin : Hid (∀ x : Nat, x = goes i l n l.length → RouteSays w f l p (.returned (.tuple #[.int .i64 (x : Int), .int .i64 0])) w1) := fun x hx => ⟨hB1, .inl ⟨HF.out, by rw [hx, e1, e2, Int.toNat_natCast, Int.toNat_natCast]⟩⟩
    rw [e1, e2, Int.toNat_natCast, Int.toNat_natCast]
    rw [e2, Int.toNat_natCast] at hp
    have HL := Lib.hid hL
    have HP := Lib.hid hp
    obtain ⟨g, hg⟩ : ∃ g, g = w.heap.size := ⟨_, rfl⟩
    rw [← hg] at HP ⊢
    clear hg hf e1 e2 hL hp hblk
    obtain ⟨xf, yf, hpf⟩ := plV_form i n
    rw [hpf]
    have Hpf := Lib.hid hpf
    clear hpf
    go_wp2
    go_loop [8, 11, 27] (fun h t j => ∃ k : Nat, k ≤ l.length ∧ j = .int .i64 k ∧ t = .int .i64 (goes i l n k : Nat) ∧ h = plV (stands i l k) n) (fun _ _ j => l.length - (intOf j).toNat)
    case atStart => exact ⟨0, Nat.zero_le _, rfl, rfl, Hpf.out.symm⟩
    case round =>
      obtain ⟨k, hk, rfl, rfl, rfl⟩ := hrel
      by_cases hlt : k < l.length
      · have hlti : (k : Int) < (l.length : Int) := by omega
        have hk0 : (0 : Int) ≤ (k : Int) := by omega
        obtain ⟨b, off, e3, hb, hc⟩ := HP.out (by omega)
        injection e3 with e3; injection e3 with e4 e5; subst e4; subst e5
        have hck := hc k hlt
        rw [Nat.zero_add] at hck
        have hgl := HL.out.goes_le (Nat.le_of_lt hlt)
        have hfl := far_le (stands i l k) (nn l k) n (HL.out.stands_lt (by omega)) (HL.out.at_ k hlt).2 HL.out.lo HL.out.hi
        have HW := Lib.hid (fun W => way_of (stands i l k) (nn l k) n (HL.out.stands_lt (by omega)) (HL.out.at_ k hlt).2 HL.out.lo HL.out.hi W)
        have hgs := goes_succ i l n k
        have hss := stands_succ i l k
        obtain ⟨t, ht⟩ : ∃ t, t = goes i l n k := ⟨_, rfl⟩
        obtain ⟨d, hd⟩ : ∃ d, d = far (stands i l k) (nn l k) n := ⟨_, rfl⟩
        rw [← ht] at hgl hgs ⊢
        rw [← hd] at hfl hgs HW
        have hti : (t : Int) ≤ 1100000 := by omega
        have hdi : (d : Int) ≤ 1100 := by omega
        obtain ⟨xs, ys, hps⟩ := plV_form (stands i l k) n
        obtain ⟨xk, yk, hpk⟩ := plV_form (nn l k) n
        rw [hps] at HW ⊢
        rw [hpk] at HW hck
        have Hgs := Lib.hid hgs
        have Hpk := Lib.hid hpk
        have Hss := Lib.hid hss
        clear hc hgs hss ht hd hps hpk
        go_wp2_with fail
        refine (HW.out _).mono ?_
        rintro e w' ⟨rfl, rfl⟩
        go_wp2
        go_round
        case rel => exact ⟨k + 1, by omega, by go_num, by rw [Hgs.out]; simp, by rw [Hss.out, Hpk.out]⟩
        case measure => simp [intOf]; omega
      · have hlti : ¬ (k : Int) < (l.length : Int) := by omega
        obtain rfl : k = l.length := by omega
        obtain ⟨t, ht⟩ : ∃ t, t = goes i l n l.length := ⟨_, rfl⟩
        rw [← ht]
        have HX := Lib.hid (Hfin.out t ht)
        clear ht
        obtain ⟨xs, ys, hps⟩ := plV_form (stands i l l.length) n
        rw [hps]
        clear hps
        go_wp2
        go_ret2
        exact HX.out
  · have HX : Hid (RouteSays w f l p (.returned (.tuple #[.int .i64 0, .int .i64 2])) w1) := ⟨hB1, .inr ⟨hf, rfl⟩⟩
    clear hf
    go_wp2
    go_ret2
    exact HX.out
end Go.Proofs.Ytceppcmcokkkoaa
