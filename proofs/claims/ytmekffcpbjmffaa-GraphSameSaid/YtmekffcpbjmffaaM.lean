/- Contract of live. -/
import Derived.Test.YtmekffcpbjmffaaL
namespace Go.Proofs.Ytmekffcpbjmffaa
open Go.RowKit

/-- two rising lists of the same numbers are one -/
theorem rising_ext : ∀ (l l' : List Nat), l.Pairwise (· < ·) → l'.Pairwise (· < ·) → (∀ x, x ∈ l ↔ x ∈ l') → l = l' := by
  intro l
  induction l with
  | nil =>
    intro l' _ _ h
    cases l' with
    | nil => rfl
    | cons a l' => exact absurd ((h a).2 (by simp)) (by simp)
  | cons a l ih =>
    intro l' h1 h2 h
    cases l' with
    | nil => exact absurd ((h a).1 (by simp)) (by simp)
    | cons b l' =>
      obtain ⟨p1, p2⟩ := List.pairwise_cons.1 h1
      obtain ⟨q1, q2⟩ := List.pairwise_cons.1 h2
      have hab : a = b := by
        rcases List.mem_cons.1 ((h a).1 (by simp)) with e | e
        · exact e
        · rcases List.mem_cons.1 ((h b).2 (by simp)) with e' | e'
          · exact e'.symm
          · have := q1 a e; have := p1 b e'; omega
      subst hab
      rw [ih l' p2 q2 fun x => ?_]
      constructor
      · intro hx
        rcases List.mem_cons.1 ((h x).1 (List.mem_cons_of_mem _ hx)) with e | e
        · have := p1 x hx; omega
        · exact e
      · intro hx
        rcases List.mem_cons.1 ((h x).2 (List.mem_cons_of_mem _ hx)) with e | e
        · have := q1 x hx; omega
        · exact e

def D3 : List (List Nat) := [[], [0], [0, 1]]
theorem row3 (n : Nat) : rowN D3 n = if n = 1 then [0] else if n = 2 then [0, 1] else [] := by
  match n with
  | 0 => rfl
  | 1 => rfl
  | 2 => rfl
  | n + 3 => rw [if_neg (by omega), if_neg (by omega)]; rfl
theorem ok3 : OkD D3 := by
  refine ⟨⟨by decide, fun n d hd => ?_⟩, fun n => ?_⟩
  · rw [row3] at hd
    split at hd
    · simp at hd; omega
    · split at hd
      · simp at hd; omega
      · cases hd
  · rw [row3]; split
    · simp
    · split <;> simp
theorem must3_0 (x : Nat) : ¬ Must D3 x 0 := fun h => by have := h.lt ok3.right; omega
theorem must3_1 (x : Nat) : Must D3 x 1 ↔ x = 0 := ⟨fun h => by have := h.lt ok3.right; omega, fun h => by subst h; exact .one (by rw [row3]; simp)⟩
theorem thin3 : thinRow D3 2 = [1] := by
  refine rising_ext _ _ (listM_rising _ _) (by simp) fun x => ?_
  rw [mem_thinRow ok3.right, row3]
  simp
  constructor
  · rintro ⟨h1 | h1, h2, h3⟩
    · subst h1; exact absurd ((must3_1 0).2 rfl) h3
    · exact h1
  · rintro rfl; exact ⟨.inr rfl, must3_0 1, fun h => by have := (must3_1 1).1 h; omega⟩
theorem up3 (x : Nat) (hx : x < 3) (B : Nat) (hB : 3 ≤ B) : upM D3 (markI D3.length [2]) B x = true := by
  rw [upM_iff ok3.right.2 (fun y hy => by have := markI_lt hy; have : D3.length = 3 := rfl; omega)]
  have h2 : markI D3.length [2] 2 = true := by decide
  match x with
  | 0 => exact .inr ⟨2, h2, .one (by rw [row3]; simp)⟩
  | 1 => exact .inr ⟨2, h2, .one (by rw [row3]; simp)⟩
  | 2 => exact .inl h2
  | x + 3 => omega
theorem close3 : (closeL D3 [2]).length = 3 := by
  have : closeL D3 [2] = List.range 3 := by
    unfold closeL listM
    exact List.filter_eq_self.2 (fun a ha => up3 a (List.mem_range.1 ha) _ (Nat.le_refl _))
  rw [this]; rfl
theorem bef3 : befB D3 0 2 = true := by
  unfold befB
  rw [show upM D3 (markI D3.length [2]) 256 (Int.toNat 0) = true from up3 0 (by omega) _ (by omega)]
  rfl
theorem dep3 : depthI D3 2 = 3 := by decide

theorem live_mat (w : World) (B : Nat) (hB : w.heap.size + 3 ≤ B) : Mat (((w.alloc (.cells #[.int .i64 0] 3)).alloc (.cells #[.int .i64 0, .int .i64 1] 3)).alloc (.cells #[.slice none 0 0, .slice (some ⟨w.heap.size, 0, none⟩) 1 1, .slice (some ⟨w.heap.size + 1, 0, none⟩) 2 2] 23)) B (some ⟨w.heap.size + 2, 0, none⟩) (rowsI D3) := by
  have h0 : (((w.alloc (.cells #[.int .i64 0] 3)).alloc (.cells #[.int .i64 0, .int .i64 1] 3)).alloc (.cells #[.slice none 0 0, .slice (some ⟨w.heap.size, 0, none⟩) 1 1, .slice (some ⟨w.heap.size + 1, 0, none⟩) 2 2] 23)).heap[w.heap.size]? = some (.cells #[.int .i64 0] 3 (0, 0)) := by
    rw [heap_alloc_old _ _ _ (by simp; omega), heap_alloc_old _ _ _ (by simp)]; exact heap_alloc_last _ _
  have h1 : (((w.alloc (.cells #[.int .i64 0] 3)).alloc (.cells #[.int .i64 0, .int .i64 1] 3)).alloc (.cells #[.slice none 0 0, .slice (some ⟨w.heap.size, 0, none⟩) 1 1, .slice (some ⟨w.heap.size + 1, 0, none⟩) 2 2] 23)).heap[w.heap.size + 1]? = some (.cells #[.int .i64 0, .int .i64 1] 3 (0, 0)) := by
    rw [heap_alloc_old _ _ _ (by simp)]
    have := heap_alloc_last (w.alloc (.cells #[.int .i64 0] 3)) (.cells #[.int .i64 0, .int .i64 1] 3)
    simpa only [World.size_alloc] using this
  have h2 : (((w.alloc (.cells #[.int .i64 0] 3)).alloc (.cells #[.int .i64 0, .int .i64 1] 3)).alloc (.cells #[.slice none 0 0, .slice (some ⟨w.heap.size, 0, none⟩) 1 1, .slice (some ⟨w.heap.size + 1, 0, none⟩) 2 2] 23)).heap[w.heap.size + 2]? = some (.cells #[.slice none 0 0, .slice (some ⟨w.heap.size, 0, none⟩) 1 1, .slice (some ⟨w.heap.size + 1, 0, none⟩) 2 2] 23 (0, 0)) := by
    have := heap_alloc_last ((w.alloc (.cells #[.int .i64 0] 3)).alloc (.cells #[.int .i64 0, .int .i64 1] 3)) (.cells #[.slice none 0 0, .slice (some ⟨w.heap.size, 0, none⟩) 1 1, .slice (some ⟨w.heap.size + 1, 0, none⟩) 2 2] 23)
    simpa only [World.size_alloc] using this
  generalize (((w.alloc (Obj.cells #[.int .i64 0] 3)).alloc (.cells #[.int .i64 0, .int .i64 1] 3)).alloc (.cells #[.slice none 0 0, .slice (some ⟨w.heap.size, 0, none⟩) 1 1, .slice (some ⟨w.heap.size + 1, 0, none⟩) 2 2] 23)) = W at h0 h1 h2 ⊢
  intro _
  refine ⟨_, 0, rfl, by omega, fun j hj => ?_⟩
  rw [length_rowsI] at hj
  have hj : j < 3 := hj
  match j with
  | 0 => exact ⟨none, 0, by simp only [World.cell?, h2]; rfl, Ints.nil⟩
  | 1 =>
    refine ⟨_, 1, by simp only [World.cell?, h2]; rfl, fun _ => ⟨_, 0, rfl, by omega, fun i hi => ?_⟩⟩
    have hi : i < 1 := hi
    match i with
    | 0 => simp only [World.cell?, h0]; rfl
  | 2 =>
    refine ⟨_, 2, by simp only [World.cell?, h2]; rfl, fun _ => ⟨_, 0, rfl, by omega, fun i hi => ?_⟩⟩
    have hi : i < 2 := hi
    match i with
    | 0 => simp only [World.cell?, h1]; rfl
    | 1 => simp only [World.cell?, h1]; rfl

theorem thin_any (A : Option Addr) (c kD : Nat) (D : List (List Nat)) (hkD : kD = D.length) (hD : OkD D) (w : World) (hM : Mat w w.heap.size A (rowsI D)) :
    Calls Try.prog 31 #[.slice A kD c] w (ThinSays w D) := callsIn_wide.1 (thin_in 4 (Nat.le_refl _) A c kD D hkD hD w hM)
theorem thin3_at {w : World} {A : Option Addr} (h : Mat w w.heap.size A (rowsI (thinL D3))) : ∃ b off Ak ck bk ok, A = some ⟨b, off, none⟩ ∧ b < w.heap.size ∧ w.cell? ⟨b, off + 2, none⟩ = some (.slice Ak 1 ck) ∧ Ak = some ⟨bk, ok, none⟩ ∧ bk < w.heap.size ∧ w.cell? ⟨bk, ok, none⟩ = some (.int .i64 1) := by
  obtain ⟨b, off, Ak, ck, rfl, hb, hc, hI⟩ := h.at_ (k := 2) (by rw [length_rowsI, length_thinL]; decide)
  rw [rowI_rowsI, rowN_thinL (by decide), thin3] at hc hI
  obtain ⟨bk, ok, rfl, hbk, hck⟩ := hI.at_ (k := 0) (by decide)
  exact ⟨b, off, _, ck, bk, ok, rfl, hb, hc, rfl, hbk, hck⟩
theorem close_at (A : Option Addr) (c kD : Nat) (D : List (List Nat)) (hkD : kD = D.length) (hD : OkD D) (A2 : Option Addr) (c2 k2 : Nat) (l : List Int) (hk2 : k2 = l.length) (hl : l.length ≤ 100000) (w : World)
    (hM : Mat w w.heap.size A (rowsI D)) (hI : Ints w w.heap.size A2 l) :
    Calls Try.prog 21 #[.slice A kD c, .slice A2 k2 c2] w fun e w' => ∃ A' c', e = .returned (.slice A' (closeL D l).length c') ∧ Ints w' w'.heap.size A' (natsI (closeL D l)) ∧ Below w.heap.size w w' := by
  refine (close_yes A c kD D hkD hD A2 c2 k2 l hk2 hl w hM hI).mono ?_
  rintro e w' ⟨v, rfl, ho, hB⟩
  rw [natsV_intsV] at ho
  obtain ⟨A', c', rfl, _, _, hI'⟩ := own_ints ho
  exact ⟨A', c', by rw [length_natsI], hI', hB⟩

set_option maxRecDepth 100000 in
set_option maxHeartbeats 1000000 in
theorem live_any (w : World) : Calls Try.prog 15 #[] w fun e w' => e = .returned (.bool true) ∧ Below w.heap.size w w' := by
  have hm := live_mat w _ (Nat.le_refl _)
  have hb : Below w.heap.size w (((w.alloc (.cells #[.int .i64 0] 3)).alloc (.cells #[.int .i64 0, .int .i64 1] 3)).alloc (.cells #[.slice none 0 0, .slice (some ⟨w.heap.size, 0, none⟩) 1 1, .slice (some ⟨w.heap.size + 1, 0, none⟩) 2 2] 23)) := (((Below.refl _ _).alloc (Nat.le_refl _) _).alloc (by simp) _).alloc (by simp; omega) _
  have hs : (((w.alloc (.cells #[.int .i64 0] 3)).alloc (.cells #[.int .i64 0, .int .i64 1] 3)).alloc (.cells #[.slice none 0 0, .slice (some ⟨w.heap.size, 0, none⟩) 1 1, .slice (some ⟨w.heap.size + 1, 0, none⟩) 2 2] 23)).heap.size = w.heap.size + 3 := by simp
  go_enter Try.func15, Try.ntmps15
  go_wp2_with fail
  generalize (((w.alloc (Obj.cells #[.int .i64 0] 3)).alloc (.cells #[.int .i64 0, .int .i64 1] 3)).alloc (.cells #[.slice none 0 0, .slice (some ⟨w.heap.size, 0, none⟩) 1 1, .slice (some ⟨w.heap.size + 1, 0, none⟩) 2 2] 23)) = W at hm hb hs ⊢
  rw [← hs] at hm
  have Hb := Lib.hid hb
  have Hs := Lib.hid hs
  clear hb
  refine (thin_any _ _ _ D3 rfl ok3 W hm).mono ?_
  rintro e w1 ⟨⟨A1, c1, rfl, hM1⟩, hB1⟩
  obtain ⟨b, off, Ak, ck, bk, ok, rfl, hb1, hc1, rfl, hb2, hc2⟩ := thin3_at hM1
  have HB1 := Lib.hid hB1
  have Hm1 : Hid (Mat w1 w1.heap.size (some ⟨w.heap.size + 2, 0, none⟩) (rowsI D3)) := (hm.below hB1).more hB1.size
  clear hM1 hB1 hm hs
  rw [show D3.length = 3 from rfl]
  have hR := Lib.hid (right_yes (some ⟨w.heap.size + 2, 0, none⟩) 3 3 D3 rfl ok3 w1 Hm1.out)
  have hBf := Lib.hid (before_yes (some ⟨w.heap.size + 2, 0, none⟩) 3 3 D3 rfl ok3 0 2 w1 Hm1.out)
  rw [bef3] at hBf
  go_wp2_with (first
    | (go_at_call 16; refine hR.out.mono ?_; rintro e w' ⟨rfl, rfl⟩)
    | (go_at_call 25; refine hBf.out.mono ?_; rintro e w2 ⟨rfl, hB2⟩; have Hm2 : Hid (Mat w2 w2.heap.size (some ⟨w.heap.size + 2, 0, none⟩) (rowsI D3)) := (Hm1.out.below hB2).more hB2.size; have HB2 := Lib.hid hB2; clear hB2)
    | (go_at_call 29; refine (depth_yes (some ⟨w.heap.size + 2, 0, none⟩) 3 3 D3 rfl ok3 2 w2 Hm2.out).mono ?_; rintro e w3 ⟨rfl, hB3⟩; rw [dep3]; have Hm3 : Hid (Mat w3 w3.heap.size (some ⟨w.heap.size + 2, 0, none⟩) (rowsI D3)) := (Hm2.out.below hB3).more hB3.size; have HB3 := Lib.hid hB3; clear hB3)
    | (go_at_call 21; refine (close_at (some ⟨w.heap.size + 2, 0, none⟩) 3 3 D3 rfl ok3 (some ⟨w3.heap.size, 0, none⟩) 1 1 [2] rfl (by decide) (w3.alloc (.cells #[.int .i64 2] 3)) ((Hm3.out.below ((Below.refl _ w3).alloc (Nat.le_refl _) _)).more (by simp)) (Ints.one w3 2 _ (by simp))).mono ?_; rintro e w4 ⟨A4, c4, rfl, hI4, hB4⟩; rw [close3]; have HB4 := Lib.hid hB4; clear hB4 hI4))
  go_ret
  have k1 := Hb.out.trans (HB1.out.mono (by have := Hs.out; omega))
  have k2 := k1.trans (HB2.out.mono k1.size)
  have k3 := k2.trans (HB3.out.mono k2.size)
  have k4 := k3.alloc k3.size (.cells #[.int .i64 2] 3)
  exact ⟨rfl, k4.trans (HB4.out.mono k4.size)⟩
end Go.Proofs.Ytmekffcpbjmffaa
