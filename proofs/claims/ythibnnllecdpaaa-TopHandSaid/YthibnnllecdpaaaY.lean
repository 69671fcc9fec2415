/- same, and play: both caches behind deeds. -/
import Derived.Test.YthibnnllecdpaaaX
namespace Go.Proofs.Ythibnnllecdpaaa
open Go.RowKit

section
variable (B gc gr M : Nat) (vc vr : Value) (l : List H) (w : World)
set_option maxRecDepth 100000 in
set_option maxHeartbeats 1000000 in
theorem same_any (h : Two B w gc vc gr vr M l) : Calls Try.prog 13 #[.pointer (some ⟨gc, 0, none⟩), .pointer (some ⟨gr, 0, none⟩)] w fun e w' => e = .returned (.bool true) ∧ Below w.heap.size w w' := by
  have hl1 : l.length ≤ 1000 := by have := h.len; have := h.hM; omega
  have H0 := Lib.hid h
  have Hbl : Hid (l.length = (blocks l).length) := by simp [blocks, Hid]
  clear h
  go_enter Try.func13, Try.ntmps13
  go_wp2
  go_loopw [5] (fun i wr => ∃ k : Nat, k ≤ 15 ∧ i = .int .i64 ((k : Int) - 1) ∧ Below w.heap.size w wr) (fun i _ => (14 - intOf i).toNat)
  case atStart => exact ⟨0, by omega, rfl, Below.refl _ _⟩
  case round =>
    obtain ⟨k, hk, rfl, hB⟩ := hrel
    rename World => wr
    have HB := Lib.hid hB
    by_cases hlt : k < 15
    · obtain ⟨x, hx⟩ : ∃ x : Int, x = (k : Int) - 1 := ⟨_, rfl⟩
      have Hx := Lib.hid hx
      have x1 : x < 14 := by omega
      have x2 : -1 ≤ x := by omega
      rw [← hx]
      clear hx hB
      go_wp2_with fail
      refine (has_any B gc vc M l x wr (H0.out.fresh HB.out).c hl1).mono ?_
      rintro e w1 ⟨rfl, hb1⟩
      have HB1 := Lib.hid (HB.out.trans (hb1.mono HB.out.size))
      clear hb1
      go_wp2_with fail
      refine (rhas_any B gr vr M l x w1 (H0.out.fresh HB1.out).r hl1).mono ?_
      rintro e w' ⟨rfl, rfl⟩
      generalize has l x = d
      have hdd : (d != d) = false := by simp
      go_wp2_with fail
      refine (pins_any B gc vc M l x w1 (H0.out.fresh HB1.out).c hl1).mono ?_
      rintro e w2 ⟨rfl, hb2⟩
      have HB2 := Lib.hid (HB1.out.trans (hb2.mono HB1.out.size))
      clear hb2
      go_wp2_with fail
      refine (rpins_any B gr vr M l x w2 (H0.out.fresh HB2.out).r hl1).mono ?_
      rintro e w' ⟨rfl, rfl⟩
      generalize pinsN l x = y
      go_wp2
      go_roundw
      case rel => exact ⟨k + 1, by omega, by have := Hx.out; congr 1; omega, HB2.out⟩
      case measure => simp [intOf]; omega
    · obtain rfl : k = 15 := by omega
      clear hB
      go_wp2_with fail
      refine (list_any B gc vc M l wr (H0.out.fresh HB.out).c hl1).mono ?_
      rintro e w1 ⟨A1, c1, rfl, hI1, hb1⟩
      have HB1 := Lib.hid (HB.out.trans (hb1.mono HB.out.size))
      have HI1 := Lib.hid hI1
      clear hb1 hI1
      go_wp2_with fail
      refine (rlist_any B gr vr M l w1 (H0.out.fresh HB1.out).r hl1).mono ?_
      rintro e w2 ⟨A2, c2, rfl, hI2, hb2⟩
      have HI2 := Lib.hid hI2
      have HI1' := Lib.hid (HI1.out.next hb2)
      have HB2 := Lib.hid (HB1.out.trans (hb2.mono HB1.out.size))
      clear hb2 hI2
      go_wp2_with fail
      refine (same_ints A1 A2 c1 c2 l.length l.length (blocks l) w2 Hbl.out Hbl.out HI1'.out HI2.out (by rw [← Hbl.out]; omega)).mono ?_
      rintro e w3 ⟨rfl, hb3⟩
      have HB3 := Lib.hid (HB2.out.trans (hb3.mono HB2.out.size))
      clear hb3
      go_wp2
      go_ret
      exact ⟨rfl, HB3.out⟩
end
/-- a deed: what, of which block, on or off -/
structure D where
  k : Int
  b : Int
  o : Bool
def dn (ds : List D) (j : Nat) : D := ds.getD j ⟨0, 0, false⟩
theorem dn_lt {ds : List D} {j : Nat} (h : j < ds.length) : dn ds j = ds[j] := by
  unfold dn; rw [List.getD_eq_getElem?_getD, List.getElem?_eq_getElem h]; rfl
/-- a slice's address under which the cells are the deeds ds -/
def Deeds (w : World) (A : Option Addr) (ds : List D) : Prop :=
  0 < ds.length → ∃ b off, A = some ⟨b, off, none⟩ ∧ b < w.heap.size ∧ ∀ j, j < ds.length → w.cell? ⟨b, off + j * 3, none⟩ = some (.int .i64 (dn ds j).k) ∧ w.cell? ⟨b, off + j * 3 + 1, none⟩ = some (.int .i64 (dn ds j).b) ∧ w.cell? ⟨b, off + j * 3 + 2, none⟩ = some (.bool (dn ds j).o)
theorem Deeds.next {w w' : World} {A : Option Addr} {ds : List D} (h : Deeds w A ds) (hb : Below w.heap.size w w') : Deeds w' A ds := fun hn => by
  obtain ⟨b, off, e, hlt, hc⟩ := h hn
  refine ⟨b, off, e, Nat.lt_of_lt_of_le hlt hb.size, fun j hj => ?_⟩
  obtain ⟨c0, c1, c2⟩ := hc j hj
  exact ⟨(hb.cell (p := ⟨b, off + j * 3, none⟩) hlt).trans c0, (hb.cell (p := ⟨b, off + j * 3 + 1, none⟩) hlt).trans c1, (hb.cell (p := ⟨b, off + j * 3 + 2, none⟩) hlt).trans c2⟩
/-- what play leaves -/
def Played (w : World) (M : Nat) (e : Ending) (w' : World) : Prop :=
  ∃ gc vc gr vr l, e = .returned (.tuple #[.pointer (some ⟨gc, 0, none⟩), .pointer (some ⟨gr, 0, none⟩), .bool true]) ∧ Two w.heap.size w' gc vc gr vr M l ∧ Few 80 l ∧ (blocks l).Nodup ∧ Below w.heap.size w w'
set_option maxRecDepth 100000 in
set_option maxHeartbeats 2000000 in
theorem play_any (n : Int) (M : Nat) (A : Option Addr) (len cap : Nat) (ds : List D) (w : World) (h0 : 0 ≤ n) (h255 : n ≤ 255) (hM : n % 8 + 1 = (M : Int)) (hlen : ds.length = len) (hcap : len ≤ cap) (_hmax : cap ≤ maxLen) (hds : Deeds w A ds) :
    Calls Try.prog 11 #[.int .u8 n, .slice A len cap] w (Played w M) := by
  subst hlen
  have m1 : 1 ≤ M := by omega
  have m8 : M ≤ 8 := by omega
  have HN := Lib.hid (new_yes (n % 8 + 1) w (by omega) (by omega))
  have HR := Lib.hid (fun W => rnew_yes (n % 8 + 1) W (by omega) (by omega))
  rw [hM] at HN HR
  have HM := Lib.hid hM
  have HD := Lib.hid hds
  unfold maxLen at _hmax
  have m0 : 0 ≤ n % 8 := by omega
  have m7 : n % 8 ≤ 7 := by omega
  clear hM hds
  go_enter Try.func11, Try.ntmps11
  go_wp2_with fail
  rw [HM.out]
  refine HN.out.mono ?_
  rintro e w1 ⟨rfl, hC1, hb1⟩
  have HC1 := Lib.hid hC1
  have HB1 := Lib.hid hb1
  clear hC1 hb1
  go_wp2_with fail
  rw [HM.out]
  refine (HR.out w1).mono ?_
  rintro e w2 ⟨rfl, hR2, hb2⟩
  have hT : Two w.heap.size w2 w.heap.size (.slice none 0 0) w1.heap.size (.slice none 0 0) M [] := ⟨HC1.out.fresh hb2, ⟨hR2.head, own_base hR2.row HB1.out.size, hR2.ne, Nat.le_trans HB1.out.size hR2.lo⟩, Nat.zero_le _, by omega, Nat.le_trans HB1.out.size hb2.size⟩
  have HT := Lib.hid hT
  have HB2 := Lib.hid (HB1.out.trans (hb2.mono HB1.out.size))
  clear hT hR2 hb2
  go_wp2
  go_loopw [9] (fun i wr => ∃ (k : Nat) (vc vr : Value) (l : List H), k ≤ ds.length ∧ k ≤ 80 ∧ i = .int .i64 k ∧ Two w.heap.size wr w.heap.size vc w1.heap.size vr M l ∧ Few k l ∧ (blocks l).Nodup ∧ Below w.heap.size w wr) (fun i _ => ds.length - (intOf i).toNat)
  case atStart => exact ⟨0, _, _, [], Nat.zero_le _, Nat.zero_le _, rfl, HT.out, (fun _ h => (by cases h)), (by simp [blocks]), HB2.out⟩
  case round =>
    obtain ⟨k, vc, vr, l, hk, hk80, rfl, hT, hf, hnd, hB⟩ := hrel
    rename World => wr
    have HTk := Lib.hid hT
    have Hf := Lib.hid hf
    have Hnd := Lib.hid hnd
    have HB := Lib.hid hB
    clear hT hf hnd hB
    have hk0 : (0 : Int) ≤ (k : Int) := by omega
    by_cases hlt : k < ds.length
    · have hlti : (k : Int) < (ds.length : Int) := by omega
      by_cases h80 : k < 80
      · have h80i : (k : Int) < 80 := by omega
        obtain ⟨b, off, rfl, hb, hc⟩ := (HD.out.next HB.out) (by omega)
        obtain ⟨c0, c1, c2⟩ := hc k hlt
        generalize dn ds k = d at c0 c1 c2
        obtain ⟨dk, db, dx⟩ := d
        have Hn : Hid (Few ((k + 1 : Nat) : Int) (doL M l dk db dx) ∧ (blocks (doL M l dk db dx)).Nodup ∧ (doL M l dk db dx).length ≤ M) :=
          ⟨by have := few_doL (M := M) Hf.out (by omega) dk db dx; rwa [Int.natCast_add], nodup_doL Hnd.out dk db dx, length_doL HTk.out.len dk db dx⟩
        have HDo := Lib.hid (do_any w.heap.size w.heap.size w1.heap.size M vc vr l wr dk db dx HTk.out (Hf.out.more (by omega)))
        clear hc
        go_wp2_with ((with_reducible refine HDo.out.mono ?_); rintro e w3 ⟨rfl, hw3⟩; have HW3 := Lib.hid hw3; clear hw3)
        go_roundw
        case rel =>
          have hbl := HW3.out.below HTk.out
          obtain ⟨vc', vr', t3, _, _, _⟩ := HW3.out
          exact ⟨k + 1, vc', vr', _, by omega, by omega, by go_num, t3, Hn.out.1, Hn.out.2.1, HB.out.trans hbl⟩
        case measure => simp [intOf]; omega
      · obtain rfl : k = 80 := by omega
        go_wp2
        go_ret3
        exact ⟨_, _, _, _, l, rfl, HTk.out, Hf.out, Hnd.out, HB.out⟩
    · have hlti : ¬ (k : Int) < (ds.length : Int) := by omega
      go_wp2
      go_ret3
      exact ⟨_, _, _, _, l, rfl, HTk.out, Hf.out.more (by omega), Hnd.out, HB.out⟩
end Go.Proofs.Ythibnnllecdpaaa
