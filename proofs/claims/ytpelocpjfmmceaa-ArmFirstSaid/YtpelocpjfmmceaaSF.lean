/- Deeds on both arms, one behind the other. -/
import Derived.Test.YtpelocpjfmmceaaSE
set_option linter.unusedVariables false
set_option linter.unusedSimpArgs false
namespace Go.Proofs.Ytpelocpjfmmceaa
open Go.RowKit

def ddn (ds : List Dd) (j : Nat) : Dd := ds.getD j ⟨0, 0, 0⟩
theorem ddn_lt {ds : List Dd} {j : Nat} (h : j < ds.length) : ddn ds j = ds[j] := by
  unfold ddn; rw [List.getD_eq_getElem?_getD, List.getElem?_eq_getElem h]; rfl
/-- a slice's address under which the cells are the deeds ds -/
def Deeds (w : World) (A : Option Addr) (ds : List Dd) : Prop :=
  0 < ds.length → ∃ b off, A = some ⟨b, off, none⟩ ∧ b < w.heap.size ∧ ∀ j, j < ds.length → w.cell? ⟨b, off + j * 3, none⟩ = some (.int .i64 (ddn ds j).k) ∧ w.cell? ⟨b, off + j * 3 + 1, none⟩ = some (.int .i64 (ddn ds j).n) ∧ w.cell? ⟨b, off + j * 3 + 2, none⟩ = some (.int .u8 (ddn ds j).p) ∧ (ddn ds j).p < 256
theorem Deeds.next {w w' : World} {A : Option Addr} {ds : List Dd} (h : Deeds w A ds) (hb : Below w.heap.size w w') : Deeds w' A ds := fun hn => by
  obtain ⟨b, off, e, hlt, hc⟩ := h hn
  refine ⟨b, off, e, Nat.lt_of_lt_of_le hlt hb.size, fun j hj => ?_⟩
  obtain ⟨c0, c1, c2, c3⟩ := hc j hj
  exact ⟨(hb.cell (p := ⟨b, off + j * 3, none⟩) hlt).trans c0, (hb.cell (p := ⟨b, off + j * 3 + 1, none⟩) hlt).trans c1, (hb.cell (p := ⟨b, off + j * 3 + 2, none⟩) hlt).trans c2, c3⟩
/-- what play leaves -/
def Played (w : World) (e : Ending) (w' : World) : Prop :=
  ∃ g h x, e = .returned (.tuple #[.pointer (some ⟨g, 0, none⟩), .pointer (some ⟨h, 0, none⟩), .bool true]) ∧ Two w.heap.size w' g h x x ∧ x.Ok 80 ∧ Below w.heap.size w w'
set_option maxRecDepth 100000 in
set_option maxHeartbeats 4000000 in
theorem play_any (p n : Int) (A : Option Addr) (len cap : Nat) (ds : List Dd) (w : World) (hp0 : 0 ≤ p) (hp1 : p ≤ 255) (hn0 : 0 ≤ n) (hn1 : n ≤ 255) (hlen : ds.length = len) (hcap : len ≤ cap) (hmax : cap ≤ maxLen) (hds : Deeds w A ds) :
    Calls Try.prog 11 #[.int .u8 p, .int .u8 n, .slice A len cap] w (Played w) := by
  subst hlen
  obtain ⟨P, hP⟩ : ∃ P : Nat, 1 + p % 4 = (P : Int) := ⟨(1 + p % 4).toNat, by omega⟩
  obtain ⟨N, hN⟩ : ∃ N : Int, n % 64 + 1 = N := ⟨_, rfl⟩
  have hNb : 1 ≤ N ∧ N ≤ 64 := by omega
  have hPb : 1 ≤ P ∧ P ≤ 4 := by omega
  have hok : newOk P N = true := by unfold newOk; simp; omega
  have HO0 := Lib.hid (fresh_ok hok 0)
  have HNw : Hid (∀ W, Below w.heap.size w W → Calls Try.prog 32 #[.int .u8 P, .int .i64 N] W fun e w' => ∃ g, e = .returned (.pointer (some ⟨g, 0, none⟩)) ∧ PAt W.heap.size w' g none 0 (fresh P N) ∧ Below W.heap.size W w') := fun W _ => (new_any P N (by omega) W).mono fun e w' ⟨h1, h2⟩ => by
    rcases h2 with ⟨_, g, q1, q2⟩ | ⟨q, _⟩
    · exact ⟨g, q1, q2, h1⟩
    · rw [hok] at q; cases q
  have HRw : Hid (∀ W, Below w.heap.size w W → Calls Try.prog 33 #[.int .u8 P, .int .i64 N] W fun e w' => ∃ g, e = .returned (.pointer (some ⟨g, 0, none⟩)) ∧ RAt W.heap.size w' g none 0 (fresh P N) ∧ Below W.heap.size W w') := fun W _ => (rnew_any P N (by omega) W).mono fun e w' ⟨h1, h2⟩ => by
    rcases h2 with ⟨_, g, q1, q2⟩ | ⟨q, _⟩
    · exact ⟨g, q1, q2, h1⟩
    · rw [hok] at q; cases q
  have HP := Lib.hid hP
  have HN := Lib.hid hN
  have HD := Lib.hid hds
  unfold maxLen at hmax
  have m0 : 0 ≤ p % 4 := by omega
  have m3 : p % 4 ≤ 3 := by omega
  have k0 : 0 ≤ n % 64 := by omega
  have k63 : n % 64 ≤ 63 := by omega
  generalize fresh P N = x0 at *
  clear hP hN hds hok hNb hPb
  go_enter Try.func11, Try.ntmps11
  go_wp2_with fail
  rw [HP.out, HN.out]
  refine (HNw.out w (Below.refl _ _)).mono ?_
  rintro e w1 ⟨g, rfl, hC1, hb1⟩
  have HC1 := Lib.hid hC1
  have HB1 := Lib.hid hb1
  clear hC1 hb1
  go_wp2_with fail
  rw [HN.out]
  refine (HRw.out w1 HB1.out).mono ?_
  rintro e w2 ⟨h, rfl, hR2, hb2⟩
  have hT : Two w.heap.size w2 g h x0 x0 := ⟨Nat.le_trans HB1.out.size hb2.size, ⟨none, 0, HC1.out.fresh hb2⟩, none, 0, ⟨hR2.head, own_base hR2.row HB1.out.size, hR2.ne, Nat.le_trans HB1.out.size hR2.lo⟩⟩
  have HT := Lib.hid hT
  have HB2 := Lib.hid (HB1.out.trans (hb2.mono HB1.out.size))
  clear hT hR2 hb2
  go_wp2
  go_loopw [11] (fun i wr => ∃ (k : Nat) (x : Ar), k ≤ ds.length ∧ k ≤ 80 ∧ i = .int .i64 k ∧ Hid (Two w.heap.size wr g h x x) ∧ Hid (x.Ok k) ∧ Hid (Below w.heap.size w wr)) (fun i _ => ds.length - (intOf i).toNat)
  case atStart => exact ⟨0, x0, Nat.zero_le _, Nat.zero_le _, rfl, HT.out, HO0.out, HB2.out⟩
  case round =>
    obtain ⟨k, x, hk, hk80, rfl, hT, hO, hB⟩ := hrel
    rename World => wr
    have hk0 : (0 : Int) ≤ (k : Int) := by omega
    by_cases hlt : k < ds.length
    · have hlti : (k : Int) < (ds.length : Int) := by omega
      by_cases h80 : k < 80
      · have h80i : (k : Int) < 80 := by omega
        obtain ⟨b, off, rfl, hb, hc⟩ := (HD.out.next hB.out) (by omega)
        obtain ⟨c0, c1, c2, c3⟩ := hc k hlt
        have HDo := Lib.hid (do_any w.heap.size g h x (ddn ds k) c3 wr hO.out (by omega) hT.out)
        have Hn := Lib.hid (hO.out.deed (ddn ds k))
        generalize ddn ds k = d at *
        obtain ⟨dk, db, dx⟩ := d
        unfold Dd.v DoSays at HDo
        clear hc c3
        generalize x.deed ⟨dk, db, dx⟩ = x2 at *
        go_wp2_with ((with_reducible refine HDo.out.mono ?_); rintro e w3 ⟨rfl, t3, b3⟩; have T3 := Lib.hid t3; have B3 := Lib.hid (hB.out.trans b3); clear t3 b3)
        go_roundw
        case rel => exact ⟨k + 1, x2, by omega, by omega, by go_num, T3.out, Hn.out, B3.out⟩
        case measure => simp [intOf]; omega
      · obtain rfl : k = 80 := by omega
        go_wp2
        go_ret3
        exact ⟨_, _, x, rfl, hT.out, hO.out, hB.out⟩
    · have hlti : ¬ (k : Int) < (ds.length : Int) := by omega
      go_wp2
      go_ret3
      exact ⟨_, _, x, rfl, hT.out, hO.out.more (by omega), hB.out⟩
end Go.Proofs.Ytpelocpjfmmceaa
