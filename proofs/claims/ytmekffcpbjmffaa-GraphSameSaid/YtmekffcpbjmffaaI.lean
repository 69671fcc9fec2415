/- Contract of Before. -/
import Derived.Test.YtmekffcpbjmffaaH
namespace Go.Proofs.Ytmekffcpbjmffaa
open Go.RowKit Go.Shelf

/-- a is a number of deps -/
def isN (D : List (List Nat)) (a : Int) : Bool := decide (0 ≤ a) && decide (a < (D.length : Int))
/-- Before -/
def befB (D : List (List Nat)) (a b : Int) : Bool := isN D a && isN D b && !(a == b) && upM D (markI D.length [b]) 256 a.toNat

theorem there_is (A : Option Addr) (c n : Nat) (D : List (List Nat)) (hn : n = D.length) (i : Int) (v : Bool) (hv : isN D i = v) (w : World) :
    Calls Try.prog 38 #[.slice A n c, .int .i64 i] w fun e w' => e = .returned (.bool v) ∧ w = w' := by
  subst hn hv
  exact there_any A D.length c i w

theorem Ints.one (w : World) (i : Int) (B : Nat) (hB : w.heap.size < B) : Ints (w.alloc (.cells #[.int .i64 i] 3)) B (some ⟨w.heap.size, 0, none⟩) [i] := fun _ =>
  ⟨w.heap.size, 0, rfl, hB, fun j hj => by
    have : j = 0 := by simp at hj; exact hj
    subst this
    have := heap_alloc_last w (.cells #[.int .i64 i] 3)
    simp only [World.cell?, Nat.add_zero, this]
    rfl⟩

theorem mark_one (A : Option Addr) (kD c : Nat) (D : List (List Nat)) (hk : kD = D.length) (hn : D.length ≤ 256) (b : Int) (w : World) :
    Calls Try.prog 39 #[.slice A kD c, .slice (some ⟨w.heap.size, 0, none⟩) 1 1] (w.alloc (.cells #[.int .i64 b] 3)) fun e w' => e = .returned (.agg (marksV (markI D.length [b])).toArray) ∧ Below w.heap.size w w' := by
  subst hk
  refine (mark_any A D.length c (some ⟨w.heap.size, 0, none⟩) 1 1 [b] (w.alloc (.cells #[.int .i64 b] 3)) rfl hn (by simp) (Ints.one w b _ (by simp))).mono ?_
  rintro e w' ⟨he, hB⟩
  exact ⟨he, ((Below.refl _ w).alloc (Nat.le_refl _) (.cells #[.int .i64 b] 3)).trans (hB.mono (by simp))⟩

set_option maxRecDepth 100000 in
set_option maxHeartbeats 1000000 in
theorem before_out (A : Option Addr) (c k : Nat) (R : List (List Int)) (hk : k = R.length) (hok : okB R = false) (a b : Int) (w : World) (hl : R.length ≤ 1000) (hr : ∀ k, k < R.length → (rowI R k).length ≤ 1000) (hM : Mat w w.heap.size A R) :
    Calls Try.prog 25 #[.slice A k c, .int .i64 a, .int .i64 b] w fun e w' => e = .returned (.bool false) ∧ w = w' := by
  have H := Lib.hid (right_no A c k R hk hok w hl hr hM)
  clear hk hok hr hM
  go_enter Try.func25, Try.ntmps25
  go_wp2_with (go_at_call 16; refine H.out.mono ?_; rintro e w' ⟨rfl, rfl⟩)
  go_ret
  exact ⟨rfl, rfl⟩

set_option maxRecDepth 100000 in
set_option maxHeartbeats 400000 in
theorem before_yes (A : Option Addr) (c kD : Nat) (D : List (List Nat)) (hkD : kD = D.length) (hD : OkD D) (a b : Int) (w : World)
    (hM : Mat w w.heap.size A (rowsI D)) :
    Calls Try.prog 25 #[.slice A kD c, .int .i64 a, .int .i64 b] w fun e w' => e = .returned (.bool (befB D a b)) ∧ Below w.heap.size w w' := by
  have HR := Lib.hid (right_yes A c kD D hkD hD w hM)
  have HkD := Lib.hid hkD
  cases ha : isN D a with
  | false =>
    have Hf : Hid (befB D a b = false) := by show _ = _; simp [befB, ha]
    have Ha := Lib.hid ha
    clear ha hM hkD
    go_enter Try.func25, Try.ntmps25
    go_wp2_with (first | (go_at_call 16; refine HR.out.mono ?_; rintro e w' ⟨rfl, rfl⟩) | (go_at_call 38; ((with_reducible refine (there_is A c kD D HkD.out a false Ha.out _).mono ?_); rintro e w' ⟨rfl, rfl⟩)))
    go_ret
    exact ⟨ret_bool Hf.out.symm, Below.refl _ _⟩
  | true =>
    cases hb : isN D b with
    | false =>
      have Hf : Hid (befB D a b = false) := by show _ = _; simp [befB, hb]
      have Ha := Lib.hid ha
      have Hb := Lib.hid hb
      clear ha hb hM hkD
      go_enter Try.func25, Try.ntmps25
      go_wp2_with (first | (go_at_call 16; refine HR.out.mono ?_; rintro e w' ⟨rfl, rfl⟩) | (go_at_call 38; ((with_reducible refine (there_is A c kD D HkD.out a true Ha.out _).mono ?_); rintro e w' ⟨rfl, rfl⟩)) | (go_at_call 38; ((with_reducible refine (there_is A c kD D HkD.out b false Hb.out _).mono ?_); rintro e w' ⟨rfl, rfl⟩)))
      go_ret
      exact ⟨ret_bool Hf.out.symm, Below.refl _ _⟩
    | true =>
      have Ha := Lib.hid ha
      have Hb := Lib.hid hb
      by_cases hab : a = b
      · have Hf : Hid (befB D a b = false) := by show _ = _; simp [befB, hab]
        have habb : (a == b) = true := by simp [hab]
        clear ha hb hM hkD hab
        go_enter Try.func25, Try.ntmps25
        go_wp2_with (first | (go_at_call 16; refine HR.out.mono ?_; rintro e w' ⟨rfl, rfl⟩) | (go_at_call 38; ((with_reducible refine (there_is A c kD D HkD.out a true Ha.out _).mono ?_); rintro e w' ⟨rfl, rfl⟩)) | (go_at_call 38; ((with_reducible refine (there_is A c kD D HkD.out b true Hb.out _).mono ?_); rintro e w' ⟨rfl, rfl⟩)))
        go_ret
        exact ⟨ret_bool Hf.out.symm, Below.refl _ _⟩
      · have Hf : Hid (befB D a b = upM D (markI D.length [b]) 256 a.toNat) := by show _ = _; simp [befB, ha, hb, hab]
        have habb : (a == b) = false := by simp [hab]
        simp only [isN, Bool.and_eq_true, decide_eq_true_eq] at ha hb
        obtain ⟨x, hx⟩ : ∃ x : Nat, a = x := ⟨a.toNat, by omega⟩
        subst hx
        have hxD : x < D.length := by omega
        have hx256 : x < 256 := by have := hD.right.1; omega
        have hxi : (x : Int) < 256 := by omega
        have hx0 : (0 : Int) ≤ (x : Int) := by omega
        rw [Int.toNat_natCast] at Hf
        obtain ⟨hz, hs⟩ := zero_of_info (P := Try.prog) info51
        obtain ⟨Z, hZ⟩ : ∃ Z, Z = zero51 := ⟨_, rfl⟩
        rw [← hZ] at hz
        have hml : ∀ x, markI D.length [b] x = true → x < D.length := fun x h => markI_lt h
        have HMk := Lib.hid (mark_one A kD c D hkD hD.right.1 b w)
        obtain ⟨m, hm⟩ : ∃ m, m = markI D.length [b] := ⟨_, rfl⟩
        rw [← hm] at HMk hml Hf
        obtain ⟨Tm, hT⟩ : ∃ Tm, Tm = (marksV m).toArray := ⟨_, rfl⟩
        have hTs : Tm.size = 256 := by rw [hT]; simp [length_marksV]
        have H1 : Hid (∀ v ∈ Tm.toList, v.oneCell' = true) := by unfold Hid; rw [hT]; exact marksV_one _
        have Hs51 : Hid ((Try.prog.info? 51).map (·.size) = some Tm.size) := by unfold Hid; rw [hs, hTs]
        have HZl : Hid (Z.size = Tm.size) := by unfold Hid; rw [hTs, hZ]; rfl
        have HT := Lib.hid hT
        rw [← hT] at HMk
        have Hml := Lib.hid hml
        have HM := Lib.hid hM
        have HDo := Lib.hid hD
        clear hZ hs hm hml hT hTs hab ha hb hM hkD hD
        go_enter Try.func25, Try.ntmps25
        go_wp2_with (first | (go_at_call 16; refine HR.out.mono ?_; rintro e w' ⟨rfl, rfl⟩) | (go_at_call 38; ((with_reducible refine (there_is A c kD D HkD.out (x : Int) true Ha.out _).mono ?_); rintro e w' ⟨rfl, rfl⟩)) | (go_at_call 38; ((with_reducible refine (there_is A c kD D HkD.out b true Hb.out _).mono ?_); rintro e w' ⟨rfl, rfl⟩)))
        refine HMk.out.mono ?_
        rintro e w1 ⟨rfl, hB1'⟩
        go_wp2_with (refine wpList_store_new rfl 51 (.tmp 7) (.tmp 31) rfl w1.heap.size rfl Tm Z rfl rfl Hs51.out HZl.out H1.out ?_)
        have hM1 : Marks (w1.alloc (.cells Tm 51)) w1.heap.size m := by
          have := BlkIs.new w1 51 Tm
          rw [HT.out] at this ⊢
          exact this
        have hB2 : Below w.heap.size w (w1.alloc (.cells Tm 51)) := hB1'.alloc hB1'.size _
        have Hah := Lib.hid (ahead_in 3 (Nat.le_refl _) w1.heap.size A c kD D HkD.out HDo.out.right HDo.out.lenBig m Hml.out (w1.alloc (.cells Tm 51)) w.heap.size hB1'.size hM1 (HM.out.below hB2))
        have HB2 := Lib.hid hB2
        have HB1 := Lib.hid hB1'.size
        clear hM1 hB2 hB1'
        refine (callsIn_wide.1 Hah.out).mono ?_
        rintro e w3 ⟨⟨v3, rfl⟩, hM3, hG3⟩
        have HB3 : Hid (Below w.heap.size w w3) := by
          refine HB2.out.grown hG3 (Nat.le_trans HB1.out (by simp)) (fun j e => by injection e with e; have := HB1.out; omega)
        have hcell := hM3.cell hx256
        clear hM3 hG3
        go_wp2_with fail
        go_ret
        exact ⟨ret_bool Hf.out.symm, HB3.out⟩
end Go.Proofs.Ytmekffcpbjmffaa
