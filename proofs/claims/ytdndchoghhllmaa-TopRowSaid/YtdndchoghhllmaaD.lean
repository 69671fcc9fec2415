/- The document's 'with': rising numbers with one more. -/
import Derived.Test.YtdndchoghhllmaaC
set_option linter.unusedVariables false
set_option linter.unusedSimpArgs false
namespace Go.Proofs.Ytdndchoghhllmaa
open Go.RowKit
theorem with_low {n : Int} : ∀ {a b : List Int}, (∀ y ∈ a, y < n) → withI (a ++ b) n = a ++ withI b n := by
  intro a
  induction a with
  | nil => intro b _; rfl
  | cons y r ih =>
    intro b h
    have hy := h y (List.mem_cons_self ..)
    show withI (y :: (r ++ b)) n = _
    conv => lhs; unfold withI
    rw [if_neg (by omega), if_neg (by omega), ih (fun z hz => h z (List.mem_cons_of_mem _ hz))]
    rfl
theorem with_up {n : Int} : ∀ {a b : List Int}, (∃ y ∈ a, n ≤ y) → withI (a ++ b) n = withI a n ++ b := by
  intro a
  induction a with
  | nil => rintro b ⟨y, hy, _⟩; cases hy
  | cons y r ih =>
    rintro b ⟨z, hz, hn⟩
    show withI (y :: (r ++ b)) n = withI (y :: r) n ++ b
    unfold withI
    by_cases h1 : n < y
    · rw [if_pos h1, if_pos h1]; rfl
    · rw [if_neg h1, if_neg h1]
      by_cases h2 : n = y
      · rw [if_pos h2, if_pos h2]; rfl
      · rw [if_neg h2, if_neg h2]
        have : ∃ z ∈ r, n ≤ z := by
          rcases List.mem_cons.1 hz with e | e
          · omega
          · exact ⟨z, e, hn⟩
        rw [ih this]; rfl
theorem with_end {n : Int} {a : List Int} (h : ∀ y ∈ a, y < n) : withI a n = a ++ [n] := by
  have := with_low (b := []) h
  rwa [List.append_nil] at this
/-- has it been placed among the first k? -/
def placed (l : List Int) (n : Int) (k : Nat) : Bool := (l.take k).any fun y => decide (n ≤ y)
def outW (l : List Int) (n : Int) (k : Nat) : List Int := if placed l n k = true then withI (l.take k) n else l.take k
theorem placed_step {l : List Int} {n : Int} {k : Nat} (hk : k < l.length) : placed l n (k + 1) = (placed l n k || decide (n ≤ inn l k)) := by
  unfold placed; rw [take_inn hk, List.any_append]; simp
theorem placed_low {l : List Int} {n : Int} {k : Nat} (h : placed l n k = false) : ∀ y ∈ l.take k, y < n := fun y hy => by
  unfold placed at h
  rw [List.any_eq_false] at h
  have := h y hy
  simp at this
  omega
theorem placed_up {l : List Int} {n : Int} {k : Nat} (h : placed l n k = true) : ∃ y ∈ l.take k, n ≤ y := by
  unfold placed at h
  obtain ⟨y, hy, e⟩ := List.any_eq_true.1 h
  exact ⟨y, hy, of_decide_eq_true e⟩
theorem rises_lt {l : List Int} (h : Rises l) {k : Nat} (hk : k < l.length) : ∀ y ∈ l.take k, y < inn l k := fun y hy => by
  have h2 : Rises (l.take (k + 1)) := List.Pairwise.sublist (List.take_sublist _ _) h
  rw [take_inn hk] at h2
  exact (List.pairwise_append.1 h2).2.2 y hy _ (List.mem_singleton.2 rfl)
theorem outW_up {l : List Int} {n : Int} {k : Nat} (hk : k < l.length) (hp : placed l n k = true) : outW l n (k + 1) = outW l n k ++ [inn l k] := by
  unfold outW
  rw [placed_step hk, hp, take_inn hk, if_pos (by simp), if_pos rfl, with_up (placed_up hp)]
theorem outW_same {l : List Int} {n : Int} {k : Nat} (hk : k < l.length) (hp : placed l n k = false) (e : inn l k = n) : outW l n (k + 1) = outW l n k ++ [n] := by
  unfold outW
  rw [placed_step hk, hp, take_inn hk, if_pos (by simp [e]), if_neg (by decide), with_low (placed_low hp), e]
  simp [withI]
theorem outW_put {l : List Int} {n : Int} {k : Nat} (hk : k < l.length) (hp : placed l n k = false) (e : n < inn l k) : outW l n (k + 1) = outW l n k ++ [n] ++ [inn l k] := by
  unfold outW
  rw [placed_step hk, hp, take_inn hk, if_pos (by simp; omega), if_neg (by decide), with_low (placed_low hp), List.append_assoc]
  simp [withI, e]
theorem outW_low {l : List Int} {n : Int} {k : Nat} (hk : k < l.length) (hp : placed l n k = false) (e : inn l k < n) : outW l n (k + 1) = outW l n k ++ [inn l k] := by
  unfold outW
  rw [placed_step hk, hp, take_inn hk, if_neg (by simp; omega), if_neg (by decide)]
theorem outW_len (l : List Int) (n : Int) (k : Nat) : (outW l n k).length ≤ k + 1 := by
  unfold outW
  split
  · have := Gs.with_len (l.take k) n
    have := List.length_take_le k l
    omega
  · have := List.length_take_le k l
    omega
set_option maxRecDepth 100000 in
set_option maxHeartbeats 2000000 in
theorem rwith_any (A : Option Addr) (c : Nat) (l : List Int) (n : Int) (w : World) (hl : l.length ≤ 1000) (hr : Rises l) (hI : Ints w w.heap.size A l) :
    Calls Try.prog 56 #[.slice A l.length c, .int .i64 n] w fun e w' => ∃ A' c', e = .returned (.slice A' (withI l n).length c') ∧ RowI w' w.heap.size A' c' (withI l n) ∧ Below w.heap.size w w' := by
  obtain ⟨i0, hi0, hz0, hz1, hz2⟩ := info_parts infoI
  have HI := Lib.hid hI
  have HRs := Lib.hid hr
  have HR : Hid (∀ (w6 : World) v A c o, RowI w6 w.heap.size A c o → (w6.alloc (.cells #[.int .i64 v] 3)).ownsRow w.heap.size 3 1 (.slice A o.length c) o.length (intsV o)) := fun w6 v A c o h => h.alloc _
  have HN : Hid (∀ (w6 : World) v ad, some (⟨w6.heap.size, 0, none⟩ : Addr) = some ad → ∀ j u, [Value.int .i64 v][j]? = some u → (w6.alloc (.cells #[.int .i64 v] 3)).cell? (ad.add j) = some u) := fun w6 v ad e j u hu => by
    cases e
    exact World.news_of_block (heap_alloc_new w6 (.cells #[.int .i64 v] 3)) j u hu
  have HA : Hid (∀ w6 v A c o A7 c7 w7, RowI w6 w.heap.size A c o → Below w.heap.size w w6 → w7.ownsRow w.heap.size 3 1 (.slice A7 (o.length + 1) c7) (o.length + 1) (intsV o ++ [.int .i64 v]) → (w6.alloc (.cells #[.int .i64 v] 3)).grownBy w7 (Value.slice A o.length c).ownBlock → RowI w7 w.heap.size A7 c7 (o ++ [v]) ∧ Below w.heap.size w w7) := fun w6 v A c o A7 c7 w7 h hb h7 hg =>
    ⟨by unfold RowI; rw [List.length_append, intsV_append]; exact h7, (hb.alloc hb.size _).grown hg (by simp; have := hb.size; omega) (fun j e => (h.lt j (by rw [← own_eq A o.length c]; exact e)).1)⟩
  clear hI hr
  go_enter Try.func56, Try.ntmps56
  go_wp2
  go_loopw [5, 6, 7] (fun s p i wr => ∃ (k : Nat) (A' : Option Addr) (c' : Nat), k ≤ l.length ∧ i = .int .i64 k ∧ p = .bool (placed l n k) ∧ s = .slice A' (outW l n k).length c' ∧ Hid (RowI wr w.heap.size A' c' (outW l n k)) ∧ Hid (Below w.heap.size w wr)) (fun _ _ i _ => l.length - (intOf i).toNat)
  case atStart => exact ⟨0, none, 0, Nat.zero_le _, rfl, rfl, rfl, World.ownsRow_nil _ _ _ _, Below.refl _ _⟩
  case round =>
    obtain ⟨k, A', c', hk, rfl, rfl, rfl, hrow, hB⟩ := hrel
    rename World => wr
    have hk0 : (0 : Int) ≤ (k : Int) := by omega
    have hol := outW_len l n k
    have hwz := hB.out.size
    by_cases hlt : k < l.length
    · have hki : (k : Int) < (l.length : Int) := by omega
      obtain ⟨b1, o1, rfl, l1, c1⟩ := HI.out.at_ hlt
      have HD : Hid (∀ w7, Below w.heap.size w w7 → w7.cell? ⟨b1, o1 + k, none⟩ = some (.int .i64 (inn l k))) := fun w7 h => (h.cell (p := ⟨b1, o1 + k, none⟩) l1).trans c1
      have d1 := HD.out wr hB.out
      have hps := placed_step (n := n) hlt
      cases hp : placed l n k with
      | true =>
        have Hs := Lib.hid (outW_up hlt hp)
        have Hp : Hid (placed l n (k + 1) = true) := by unfold Hid; rw [hps, hp]; rfl
        have hne : (inn l k != n) = true := by
          obtain ⟨y, hy, e⟩ := placed_up hp
          have := rises_lt HRs.out hlt y hy
          simp; omega
        generalize outW l n k = o at *
        generalize inn l k = y at *
        clear hps hp c1
        go_wp2_with (at_builtin; refine wpList_append_src rfl (.tmp 34) (.tmp 39) 30 rfl w.heap.size 3 i0 (.int .i64 0) 1 8 Try.underlying30 hi0 hz0 hz1 hz2 rfl (by decide) (.slice A' o.length c') o.length (intsV o) rfl (HR.out _ _ _ _ _ hrow.out) (some ⟨wr.heap.size, 0, none⟩) 1 1 [.int .i64 y] rfl rfl (HN.out _ _) (by intro h; cases h) (by intro u hu; simp at hu; subst hu; rfl) (by unfold maxLen; omega) (by omega) (by simp; omega) (o.length + 1) rfl ?_; intro A7 c7 w7 ho7 hg7 hor7; obtain ⟨a1, a2⟩ := HA.out _ _ _ _ _ A7 c7 w7 hrow.out hB.out ho7 hg7; have G1 := Lib.hid a1; have G2 := Lib.hid a2; clear ho7 hg7 hor7 a1 a2)
        go_roundw
        case rel => exact ⟨k + 1, A7, c7, by omega, by go_num, by rw [Hp.out], by rw [Hs.out, List.length_append]; rfl, by rw [Hs.out]; exact G1.out, G2.out⟩
        case measure => simp [intOf]; omega
      | false =>
        by_cases hlow : inn l k < n
        · have Hs := Lib.hid (outW_low hlt hp hlow)
          have Hp : Hid (placed l n (k + 1) = false) := by unfold Hid; rw [hps, hp, decide_eq_false (by omega)]; rfl
          have hne : (inn l k != n) = true := by simp; omega
          have hle : decide (n ≤ inn l k) = false := decide_eq_false (by omega)
          generalize outW l n k = o at *
          generalize inn l k = y at *
          clear hps hp c1
          go_wp2_with (at_builtin; refine wpList_append_src rfl (.tmp 34) (.tmp 39) 30 rfl w.heap.size 3 i0 (.int .i64 0) 1 8 Try.underlying30 hi0 hz0 hz1 hz2 rfl (by decide) (.slice A' o.length c') o.length (intsV o) rfl (HR.out _ _ _ _ _ hrow.out) (some ⟨wr.heap.size, 0, none⟩) 1 1 [.int .i64 y] rfl rfl (HN.out _ _) (by intro h; cases h) (by intro u hu; simp at hu; subst hu; rfl) (by unfold maxLen; omega) (by omega) (by simp; omega) (o.length + 1) rfl ?_; intro A7 c7 w7 ho7 hg7 hor7; obtain ⟨a1, a2⟩ := HA.out _ _ _ _ _ A7 c7 w7 hrow.out hB.out ho7 hg7; have G1 := Lib.hid a1; have G2 := Lib.hid a2; clear ho7 hg7 hor7 a1 a2)
          go_roundw
          case rel => exact ⟨k + 1, A7, c7, by omega, by go_num, by rw [Hp.out], by rw [Hs.out, List.length_append]; rfl, by rw [Hs.out]; exact G1.out, G2.out⟩
          case measure => simp [intOf]; omega
        · have hle : decide (n ≤ inn l k) = true := decide_eq_true (by omega)
          have hle2 : n ≤ inn l k := by omega
          have Hp : Hid (placed l n (k + 1) = true) := by unfold Hid; rw [hps, hp, hle]; rfl
          by_cases heq : inn l k = n
          · have Hs := Lib.hid (outW_same hlt hp heq)
            have hne : (inn l k != n) = false := by simpa using heq
            generalize outW l n k = o at *
            generalize inn l k = y at *
            have HD2 := Lib.hid (fun w7 (h : Below w.heap.size w w7) => HD.out w7 h)
            clear hps hp c1 heq
            go_wp2_with (at_builtin; refine wpList_append_src rfl (.tmp 24) (.tmp 26) 30 rfl w.heap.size 3 i0 (.int .i64 0) 1 8 Try.underlying30 hi0 hz0 hz1 hz2 rfl (by decide) (.slice A' o.length c') o.length (intsV o) rfl (HR.out _ _ _ _ _ hrow.out) (some ⟨wr.heap.size, 0, none⟩) 1 1 [.int .i64 n] rfl rfl (HN.out _ _) (by intro h; cases h) (by intro u hu; simp at hu; subst hu; rfl) (by unfold maxLen; omega) (by omega) (by simp; omega) (o.length + 1) rfl ?_; intro A7 c7 w7 ho7 hg7 hor7; obtain ⟨a1, a2⟩ := HA.out _ _ _ _ _ A7 c7 w7 hrow.out hB.out ho7 hg7; have G1 := Lib.hid a1; have G2 := Lib.hid a2; have d7 := HD.out w7 a2; clear ho7 hg7 hor7 a1 a2)
            go_roundw
            case rel => exact ⟨k + 1, A7, c7, by omega, by go_num, by rw [Hp.out], by rw [Hs.out, List.length_append]; rfl, by rw [Hs.out]; exact G1.out, G2.out⟩
            case measure => simp [intOf]; omega
          · have Hs := Lib.hid (outW_put hlt hp (by omega))
            have hne : (inn l k != n) = true := by simpa using heq
            generalize outW l n k = o at *
            generalize inn l k = y at *
            clear hps hp c1 heq
            go_wp2_with (first
              | (at_builtin; refine wpList_append_src rfl (.tmp 24) (.tmp 26) 30 rfl w.heap.size 3 i0 (.int .i64 0) 1 8 Try.underlying30 hi0 hz0 hz1 hz2 rfl (by decide) (.slice A' o.length c') o.length (intsV o) rfl (HR.out _ _ _ _ _ hrow.out) (some ⟨wr.heap.size, 0, none⟩) 1 1 [.int .i64 n] rfl rfl (HN.out _ _) (by intro h; cases h) (by intro u hu; simp at hu; subst hu; rfl) (by unfold maxLen; omega) (by omega) (by simp; omega) (o.length + 1) rfl ?_; intro A7 c7 w7 ho7 hg7 hor7; obtain ⟨a1, a2⟩ := HA.out _ _ _ _ _ A7 c7 w7 hrow.out hB.out ho7 hg7; have G1 := Lib.hid a1; have G2 := Lib.hid a2; have d7 := HD.out w7 a2; have z7 := a2.size; have HL7 := Lib.hid (show (o ++ [n]).length = o.length + 1 by simp); have R7 : Hid (RowI w7 w.heap.size A7 c7 (o ++ [n])) := a1; have R8 : Hid ((w7.alloc (.cells #[.int .i64 y] 3)).ownsRow w.heap.size 3 1 (.slice A7 (o.length + 1) c7) (o.length + 1) (intsV (o ++ [n]))) := (by unfold Hid; have := HR.out w7 y A7 c7 (o ++ [n]) a1; rwa [HL7.out] at this); clear ho7 hg7 hor7 a1 a2)
              | (at_builtin; refine wpList_append_src rfl (.tmp 34) (.tmp 39) 30 rfl w.heap.size 3 i0 (.int .i64 0) 1 8 Try.underlying30 hi0 hz0 hz1 hz2 rfl (by decide) (.slice A7 (o.length + 1) c7) (o.length + 1) (intsV (o ++ [n])) rfl R8.out (some ⟨w7.heap.size, 0, none⟩) 1 1 [.int .i64 y] rfl rfl (HN.out _ _) (by intro h; cases h) (by intro u hu; simp at hu; subst hu; rfl) (by unfold maxLen; omega) (by omega) (by simp; omega) (o.length + 1 + 1) rfl ?_; intro A8 c8 w8 ho8 hg8 hor8; obtain ⟨a1, a2⟩ := HA.out w7 y A7 c7 (o ++ [n]) A8 c8 w8 R7.out G2.out (by rw [HL7.out]; exact ho8) (by rw [HL7.out]; exact hg8); have G3 := Lib.hid a1; have G4 := Lib.hid a2; clear ho8 hg8 hor8 a1 a2))
            go_roundw
            case rel => exact ⟨k + 1, A8, c8, by omega, by go_num, by rw [Hp.out], by rw [Hs.out, List.length_append, List.length_append]; rfl, by rw [Hs.out]; exact G3.out, G4.out⟩
            case measure => simp [intOf]; omega
    · obtain rfl : k = l.length := by omega
      have hki : ¬ (l.length : Int) < (l.length : Int) := by omega
      cases hp : placed l n l.length with
      | true =>
        have Ho : Hid (outW l n l.length = withI l n) := by unfold Hid outW; rw [hp, if_pos rfl, List.take_length]
        rw [Ho.out] at hrow ⊢
        clear hp hol
        go_wp2
        go_ret
        exact ⟨A', c', rfl, hrow.out, hB.out⟩
      | false =>
        have Ho : Hid (outW l n l.length ++ [n] = withI l n) := by
          unfold Hid outW
          have := with_end (placed_low hp)
          rw [List.take_length] at this
          rw [hp, if_neg (by decide), List.take_length, this]
        generalize outW l n l.length = o at *
        clear hp
        go_wp2_with (at_builtin; refine wpList_append_src rfl (.tmp 43) (.tmp 45) 30 rfl w.heap.size 3 i0 (.int .i64 0) 1 8 Try.underlying30 hi0 hz0 hz1 hz2 rfl (by decide) (.slice A' o.length c') o.length (intsV o) rfl (HR.out _ _ _ _ _ hrow.out) (some ⟨wr.heap.size, 0, none⟩) 1 1 [.int .i64 n] rfl rfl (HN.out _ _) (by intro h; cases h) (by intro u hu; simp at hu; subst hu; rfl) (by unfold maxLen; omega) (by omega) (by simp; omega) (o.length + 1) rfl ?_; intro A7 c7 w7 ho7 hg7 hor7; obtain ⟨a1, a2⟩ := HA.out _ _ _ _ _ A7 c7 w7 hrow.out hB.out ho7 hg7; have G1 := Lib.hid a1; have G2 := Lib.hid a2; clear ho7 hg7 hor7 a1 a2)
        go_ret
        exact ⟨A7, c7, by rw [← Ho.out, List.length_append]; rfl, by rw [← Ho.out]; exact G1.out, G2.out⟩
end Go.Proofs.Ytdndchoghhllmaa
