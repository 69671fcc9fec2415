/- The contracts of Make, and of the document's own Make. -/
import Derived.Test.YtceppcmcokkkoaaU
namespace Go.Proofs.Ytceppcmcokkkoaa
open Go.RowKit Go.Shelf

def accB (n : Nat) (l : List Int) : List Int := l.foldl (fun b x => setB b x.toNat true) (List.replicate n 0)
theorem accB_snoc (n : Nat) (l : List Int) (x : Int) : accB n (l ++ [x]) = setB (accB n l) x.toNat true := by simp [accB]
theorem length_accB (n : Nat) (l : List Int) : (accB n l).length = n := by
  induction l using snocInd with
  | h0 => simp [accB]
  | h1 l x ih => rw [accB_snoc, length_setB, ih]
theorem accB_all (n : Nat) (l : List Int) : AllB (accB n l) := by
  induction l using snocInd with
  | h0 => intro x hx; simp [accB] at hx; rw [hx.2]; decide
  | h1 l x ih => rw [accB_snoc]; exact setB_all ih _ _
theorem accB_take (n : Nat) (l : List Int) (k : Nat) (h : k < l.length) : accB n (l.take (k + 1)) = setB (accB n (l.take k)) (nth l k).toNat true := by
  rw [take_snoc' l k h, accB_snoc, nth_lt h]

def inI (l : List Int) : Prop := ∀ x ∈ l, -9223372036854775808 ≤ x ∧ x ≤ 9223372036854775807
theorem inI.nth {l : List Int} (h : inI l) {k : Nat} (hk : k < l.length) : -9223372036854775808 ≤ nth l k ∧ nth l k ≤ 9223372036854775807 := by
  rw [nth_lt hk]; exact h _ (List.getElem_mem hk)

/-- what Make answers -/
def MakeSays (w : World) (n : Nat) (l : List Int) (e : Ending) (w' : World) : Prop :=
  Below w.heap.size w w' ∧ ((∃ v, e = .returned (.tuple #[v, .int .i64 0]) ∧ OwnB w' w.heap.size v (accB n l) ∧ ∀ k, k < l.length → hasB n (nth l k) = true) ∨ (e = .returned (.tuple #[.slice none 0 0, .int .i64 2]) ∧ ∃ k, k < l.length ∧ hasB n (nth l k) = false))

theorem make_out (A : Option Addr) (c m : Nat) (size : Int) (w : World) (hs : size < 0 ∨ 64 < size) :
    Calls Try.prog 44 #[.int .i64 size, .slice A m c] w fun e w' => e = .returned (.tuple #[.slice none 0 0, .int .i64 2]) ∧ w = w' := by
  rcases hs with h | h
  · go_enter Try.func44, Try.ntmps44
    go_wp2
    go_ret2
    exact ⟨rfl, rfl⟩
  · have h0 : ¬ size < 0 := by omega
    go_enter Try.func44, Try.ntmps44
    go_wp2
    go_ret2
    exact ⟨rfl, rfl⟩
theorem refmake_out (A : Option Addr) (c m : Nat) (size : Int) (w : World) (hs : size < 0 ∨ 64 < size) :
    Calls Try.prog 45 #[.int .i64 size, .slice A m c] w fun e w' => e = .returned (.tuple #[.slice none 0 0, .int .i64 2]) ∧ w = w' := by
  rcases hs with h | h
  · go_enter Try.func45, Try.ntmps45
    go_wp2
    go_ret2
    exact ⟨rfl, rfl⟩
  · have h0 : ¬ size < 0 := by omega
    go_enter Try.func45, Try.ntmps45
    go_wp2
    go_ret2
    exact ⟨rfl, rfl⟩

set_option maxRecDepth 100000 in
set_option maxHeartbeats 2000000 in
theorem make_any (A : Option Addr) (c n m : Nat) (l : List Int) (w : World) (hm : m = l.length) (hn : n ≤ 64) (hI : Ints w w.heap.size A l) (hl : l.length ≤ 100000) (hw : inI l) :
    Calls Try.prog 44 #[.int .i64 (n : Int), .slice A m c] w (MakeSays w n l) := by
  subst hm
  have hn64 : (n : Int) ≤ 64 := by omega
  have hmk := fun W => run_make_row' (P := Try.prog) 43 5 (.int .u8 0) 1 Try.underlying43 info5 rfl .i64 .i64 n (by omega) (by omega) W
  rw [made_bytes] at hmk
  obtain ⟨L0, hL0⟩ : ∃ L0, L0 = bytesV (List.replicate n 0) := ⟨_, rfl⟩
  rw [← hL0] at hmk
  have HL0 := Lib.hid hL0
  clear hL0
  go_enter Try.func44, Try.ntmps44
  go_wp2
  go_loopw [19] (fun i wr => ∃ k : Nat, k ≤ l.length ∧ i = .int .i64 k ∧ BlkIs wr w.heap.size 5 (bytesV (accB n (l.take k))) ∧ Below w.heap.size w wr ∧ ∀ j, j < k → hasB n (nth l j) = true) (fun i _ => l.length - (intOf i).toNat)
  case atStart =>
    refine ⟨0, Nat.zero_le _, rfl, ?_, (Below.refl _ _).alloc (Nat.le_refl _) _, by simp⟩
    have := heap_alloc_new w (.cells L0.toArray 5)
    rw [HL0.out] at this
    rw [HL0.out]
    exact this
  case round =>
    obtain ⟨k, hk, rfl, hblk, hB, hall⟩ := hrel
    rename World => wr
    have Hall := Lib.hid hall
    clear hall
    by_cases hlt : k < l.length
    · have hlti : (k : Int) < (l.length : Int) := by omega
      have hk0 : (0 : Int) ≤ (k : Int) := by omega
      obtain ⟨b, off, rfl, hbb, hck⟩ := (hI.below hB).at_ hlt
      have hx := hw.nth hlt
      have hst := accB_take n l k hlt
      obtain ⟨x, hxe⟩ : ∃ x, x = nth l k := ⟨_, rfl⟩
      rw [← hxe] at hck hx hst
      have Hxe := Lib.hid hxe
      have Hst := Lib.hid hst
      clear hst hxe
      cases hh : hasB n x with
      | false =>
        have Hh := Lib.hid hh
        clear hh hblk
        go_wp2_with (go_at_call 58; refine (there_no _ _ _ hx Hh.out).mono ?_; rintro e w' ⟨rfl, rfl⟩)
        go_ret2
        exact ⟨hB, .inr ⟨rfl, k, hlt, by rw [← Hxe.out]; exact Hh.out⟩⟩
      | true =>
        have Hh := Lib.hid hh
        obtain ⟨hx0, hx8⟩ := hasB_out hh
        obtain ⟨i, rfl⟩ := Int.eq_ofNat_of_zero_le hx0
        have hi8 : i / 8 < n := by omega
        have hla := length_accB n (l.take k)
        have hc1 : wr.cell? ⟨w.heap.size, i / 8, none⟩ = some (.int .u8 (nth (accB n (l.take k)) (i / 8))) := by
          rw [hblk.cell, bytesV, List.getElem?_map, List.getElem?_eq_getElem (by omega), nth_lt (by omega)]; rfl
        have hf1 : wr.frozen? ⟨w.heap.size, i / 8, none⟩ = false := hblk.frozen _
        obtain ⟨y, hy⟩ : ∃ y, y = nth (accB n (l.take k)) (i / 8) := ⟨_, rfl⟩
        rw [← hy] at hc1
        have hfin : BlkIs (wr.setCell ⟨w.heap.size, i / 8, none⟩ (.int .u8 (bits .or .u8 y (mk8 i)))).drew w.heap.size 5 (bytesV (accB n (l.take (k + 1)))) := by
          rw [Hst.out, Int.toNat_natCast, hy]
          exact hblk.setByte rfl (i / 8) _
        have hB2 := (hB.setCell (p := ⟨w.heap.size, i / 8, none⟩) (Nat.le_refl _) (.int .u8 (bits .or .u8 y (mk8 i)))).drew
        have Hfin := Lib.hid hfin
        have HB2 := Lib.hid hB2
        have h63 : (i : Int) ≤ 9223372036854775807 := hx.2
        have HX : Hid (∀ j, j < k + 1 → hasB n (nth l j) = true) := fun j hj => by
          by_cases e : j = k
          · subst e; rw [← Hxe.out]; exact Hh.out
          · exact Hall.out j (by omega)
        clear hh hblk hla hy hfin hB2
        have hwr : IntKind.i64.wrap ((i : Int) / 8) = (i : Int) / 8 := IntWalk.i64_in _ (by omega)
        have hix : ((i : Int) / 8).toNat = i / 8 := by omega
        go_wp2_with (go_at_call 58; refine (there_yes _ _ _ hx Hh.out).mono ?_; rintro e w' ⟨rfl, rfl⟩)
        go_region_with (go_at_call 59; refine (mask_any _ _ hx0 h63).mono ?_; rintro e w3 ⟨rfl, rfl⟩)
        all_goals
          go_wp2
          go_roundw
          case rel => exact ⟨k + 1, by omega, by go_num, Hfin.out, HB2.out, HX.out⟩
          case measure => simp [intOf]; omega
    · obtain rfl : k = l.length := by omega
      rw [List.take_length] at hblk
      have hlti : ¬ (l.length : Int) < (l.length : Int) := by omega
      have Hblk := Lib.hid hblk
      clear hblk
      go_wp2
      go_ret2
      refine ⟨hB, .inl ⟨_, rfl, ?_, Hall.out⟩⟩
      unfold OwnB
      rw [length_accB]
      exact ⟨by simp [bytesV, length_accB], .inr ⟨_, _, _, rfl, Nat.le_refl _, Hblk.out, Nat.le_refl _, by unfold maxLen; omega, by simp [bytesV, length_accB], by simp [bytesV, List.take_of_length_le, length_accB]⟩⟩

set_option maxRecDepth 100000 in
set_option maxHeartbeats 2000000 in
theorem refmake_any (A : Option Addr) (c n m : Nat) (l : List Int) (w : World) (hm : m = l.length) (hn : n ≤ 64) (hI : Ints w w.heap.size A l) (hl : l.length ≤ 100000) (hw : inI l) :
    Calls Try.prog 45 #[.int .i64 (n : Int), .slice A m c] w (MakeSays w n l) := by
  subst hm
  have hn64 : (n : Int) ≤ 64 := by omega
  have hmk := fun W => run_make_row' (P := Try.prog) 43 5 (.int .u8 0) 1 Try.underlying43 info5 rfl .i64 .i64 n (by omega) (by omega) W
  rw [made_bytes] at hmk
  obtain ⟨L0, hL0⟩ : ∃ L0, L0 = bytesV (List.replicate n 0) := ⟨_, rfl⟩
  rw [← hL0] at hmk
  have HL0 := Lib.hid hL0
  clear hL0
  go_enter Try.func45, Try.ntmps45
  go_wp2
  go_loopw [6, 7] (fun v i wr => ∃ k : Nat, k ≤ l.length ∧ i = .int .i64 k ∧ OwnB wr w.heap.size v (accB n (l.take k)) ∧ Below w.heap.size w wr ∧ ∀ j, j < k → hasB n (nth l j) = true) (fun _ i _ => l.length - (intOf i).toNat)
  case atStart =>
    refine ⟨0, Nat.zero_le _, rfl, ?_, (Below.refl _ _).alloc (Nat.le_refl _) _, by simp⟩
    have h := heap_alloc_new w (.cells L0.toArray 5)
    have hl0 : L0.length = n := by rw [HL0.out]; simp [bytesV]
    unfold OwnB
    rw [length_accB]
    refine ⟨by simp [bytesV, length_accB], .inr ⟨_, _, _, rfl, Nat.le_refl _, h, Nat.le_refl _, by unfold maxLen; omega, by simp [hl0], ?_⟩⟩
    rw [HL0.out]
    simp [accB, bytesV, List.take_of_length_le]
  case round =>
    obtain ⟨k, hk, rfl, hown, hB, hall⟩ := hrel
    rename World => wr
    have Hall := Lib.hid hall
    clear hall
    by_cases hlt : k < l.length
    · have hlti : (k : Int) < (l.length : Int) := by omega
      have hk0 : (0 : Int) ≤ (k : Int) := by omega
      obtain ⟨b, off, rfl, hbb, hck⟩ := (hI.below hB).at_ hlt
      have hx := hw.nth hlt
      have hst := accB_take n l k hlt
      obtain ⟨x, hxe⟩ : ∃ x, x = nth l k := ⟨_, rfl⟩
      rw [← hxe] at hck hx hst
      have Hxe := Lib.hid hxe
      have Hst := Lib.hid hst
      clear hst hxe
      obtain ⟨A6, c6, rfl, _, _, hb6⟩ := hown.form (accB_all _ _)
      have hla := length_accB n (l.take k)
      have hla1 : (accB n (l.take k)).length ≤ 1000 := by omega
      have hhl : hasB (accB n (l.take k)).length x = hasB n x := by rw [hla]
      have Hla := Lib.hid hla
      clear hla hown
      cases hh : hasB n x with
      | false =>
        have Hh := Lib.hid (hhl.trans hh)
        have Hh2 := Lib.hid hh
        clear hh hhl
        go_wp2_with (go_at_call 32; refine (refset_no _ _ (accB n (l.take k)) _ _ _ hx Hh.out).mono ?_; rintro e w' ⟨rfl, rfl⟩)
        go_ret2
        exact ⟨hB, .inr ⟨rfl, k, hlt, by rw [← Hxe.out]; exact Hh2.out⟩⟩
      | true =>
        obtain ⟨hx0, hx8⟩ := hasB_out hh
        obtain ⟨i, rfl⟩ := Int.eq_ofNat_of_zero_le hx0
        have hi8 : i / 8 < (accB n (l.take k)).length := by rw [Hla.out]; omega
        have HX : Hid (∀ j, j < k + 1 → hasB n (nth l j) = true) := fun j hj => by
          by_cases e : j = k
          · subst e; rw [← Hxe.out]; exact hh
          · exact Hall.out j (by omega)
        clear hh hhl
        go_wp2_with (go_at_call 32; refine (refset_yes _ _ (accB n (l.take k)) i true _ hb6 hla1 hi8).mono ?_; rintro e w3 ⟨v3, rfl, hB3, ho3⟩)
        go_roundw
        case rel =>
          refine ⟨k + 1, by omega, by go_num, ?_, hB.trans (hB3.mono hB.size), HX.out⟩
          rw [Hst.out, Int.toNat_natCast]
          exact own_mono ho3 hB.size
        case measure => simp [intOf]; omega
    · obtain rfl : k = l.length := by omega
      rw [List.take_length] at hown
      have hlti : ¬ (l.length : Int) < (l.length : Int) := by omega
      have Hown := Lib.hid hown
      clear hown
      go_wp2
      go_ret2
      exact ⟨hB, .inl ⟨_, rfl, Hown.out, Hall.out⟩⟩
end Go.Proofs.Ytceppcmcokkkoaa
