/- GraphMore holds whatever comes in. Here: the walk of the law's text. -/
import Derived.Test.YtmekffcpbjmffaaYC
import Derived.Test.YtmekffcpbjmffaaWGraphComes
namespace Go.Proofs.Ytmekffcpbjmffaa
open Go.RowKit

/-- deps and three sets, in a world -/
structure M3 (W : World) (A : Option Addr) (R : List (List Int)) (b0 : Option Addr) (l0 : List Int) (b1 : Option Addr) (l1 : List Int) (b2 : Option Addr) (l2 : List Int) : Prop where
  m : Mat W W.heap.size A R
  i0 : Ints W W.heap.size b0 l0
  i1 : Ints W W.heap.size b1 l1
  i2 : Ints W W.heap.size b2 l2
theorem M3.next {W W' : World} {A b0 b1 b2 : Option Addr} {R : List (List Int)} {l0 l1 l2 : List Int} (h : M3 W A R b0 l0 b1 l1 b2 l2) (hb : Below W.heap.size W W') : M3 W' A R b0 l0 b1 l1 b2 l2 := ⟨h.m.next hb, h.i0.next hb, h.i1.next hb, h.i2.next hb⟩
theorem IsMat.below {w w' : World} {a : Option Addr} {len cap : Nat} {R : List (List Int)} {A : Nat → Option Addr} {C : Nat → Nat} (h : IsMat w a len cap R A C) (hb : Below w.heap.size w w') : IsMat w' a len cap R A C :=
  ⟨h.hlen, h.hcap, h.hmax, fun hp => by
    obtain ⟨b, off, e, h1, h2⟩ := h.at_ hp
    refine ⟨b, off, e, Nat.lt_of_lt_of_le h1 hb.size, fun j hj => ?_⟩
    obtain ⟨k1, k2, k3, k4⟩ := h2 j hj
    exact ⟨(Below.cell hb (p := ⟨b, off + j, none⟩) h1).trans k1, k2.next hb, k3, k4⟩⟩
/-- three cells in a block that was just made -/
theorem three_cells (w : World) (t : TypeId) (x y z : Value) : (w.alloc (.cells #[x, y, z] t)).cell? ⟨w.heap.size, 0, none⟩ = some x ∧ (w.alloc (.cells #[x, y, z] t)).cell? ⟨w.heap.size, 1, none⟩ = some y ∧ (w.alloc (.cells #[x, y, z] t)).cell? ⟨w.heap.size, 2, none⟩ = some z := by
  have := heap_alloc_last w (.cells #[x, y, z] t)
  refine ⟨?_, ?_, ?_⟩ <;> (simp only [World.cell?, this]; rfl)

set_option linter.unusedSimpArgs false in
set_option maxRecDepth 100000 in
set_option maxHeartbeats 4000000 in
theorem GraphMore.walk (a0 : Option Addr) (len0 cap0 : Nat) (R : List (List Int)) (A : Nat → Option Addr) (C : Nat → Nat) (b0 : Option Addr) (n0 c0 : Nat) (z0 : List Int) (b1 : Option Addr) (n1 c1 : Nat) (z1 : List Int) (b2 : Option Addr) (n2 c2 : Nat) (z2 : List Int) (W : World) (h0 : IsMat W a0 len0 cap0 R A C) (r0 : IsRow .i64 W b0 n0 c0 z0) (r1 : IsRow .i64 W b1 n1 c1 z1) (r2 : IsRow .i64 W b2 n2 c2 z2) :
    Calls Try.prog 11 #[.slice a0 len0 cap0, .agg #[.slice b0 n0 c0, .slice b1 n1 c1, .slice b2 n2 c2]] W fun e W' => e = .returned (.bool true) ∧ Below W.heap.size W W' := by
  have hw0 : Below W.heap.size W (W.alloc (.cells #[.slice b0 n0 c0, .slice b1 n1 c1, .slice b2 n2 c2] 40)) := (Below.refl _ _).alloc (Nat.le_refl _) _
  have HF := Lib.hid (few_any a0 len0 cap0 R A C _ (h0.below hw0))
  obtain ⟨l0, hl0, hl0e, hI0, hsome0⟩ := some_row r0
  obtain ⟨l1, hl1, hl1e, hI1, hsome1⟩ := some_row r1
  obtain ⟨l2, hl2, hl2e, hI2, hsome2⟩ := some_row r2
  obtain ⟨cA0, cA1, cA2⟩ := three_cells W 40 (.slice b0 n0 c0) (.slice b1 n1 c1) (.slice b2 n2 c2)
  have HS0 := Lib.hid hsome0
  have HS1 := Lib.hid hsome1
  have HS2 := Lib.hid hsome2
  have hl60 : l0.length ≤ 60 := by omega
  have hl61 : l1.length ≤ 60 := by omega
  have hl62 : l2.length ≤ 60 := by omega
  obtain ⟨hf1, hf2⟩ := few_bound R
  have Hf2 := Lib.hid hf2
  have hIs : ∀ W', Below W.heap.size W W' → Ints W' W'.heap.size b0 l0 ∧ Ints W' W'.heap.size b1 l1 ∧ Ints W' W'.heap.size b2 l2 := fun W' hb => ⟨hI0.next hb, hI1.next hb, hI2.next hb⟩
  have HIs := Lib.hid hIs
  have Hw0 := Lib.hid hw0
  have HcA : Hid (∀ W', Below (W.heap.size + 1) (W.alloc (.cells #[.slice b0 n0 c0, .slice b1 n1 c1, .slice b2 n2 c2] 40)) W' → W'.cell? ⟨W.heap.size, 0, none⟩ = some (.slice b0 n0 c0) ∧ W'.cell? ⟨W.heap.size, 1, none⟩ = some (.slice b1 n1 c1) ∧ W'.cell? ⟨W.heap.size, 2, none⟩ = some (.slice b2 n2 c2)) := fun W' hb =>
    ⟨(Below.cell hb (p := ⟨W.heap.size, 0, none⟩) (Nat.lt_succ_self _)).trans cA0, (Below.cell hb (p := ⟨W.heap.size, 1, none⟩) (Nat.lt_succ_self _)).trans cA1, (Below.cell hb (p := ⟨W.heap.size, 2, none⟩) (Nat.lt_succ_self _)).trans cA2⟩
  clear hsome0 hsome1 hsome2 hI0 hI1 hI2 hl0 hl0e hl1 hl1e hl2 hl2e hf2 h0 r0 r1 r2 hIs hw0 cA0 cA1 cA2
  obtain ⟨F, hF⟩ : ∃ F, F = fewR R := ⟨_, rfl⟩
  unfold FewSays at HF
  rw [← hF] at HF hf1 Hf2
  clear hF
  go_enter Try.func11, Try.ntmps11
  go_wp2_with fail
  refine HF.out.mono ?_
  rintro e w1 ⟨Ad, cd, rfl, hM1, hB1⟩
  have hsz0 : (W.alloc (.cells #[.slice b0 n0 c0, .slice b1 n1 c1, .slice b2 n2 c2] 40)).heap.size = W.heap.size + 1 := by simp
  rw [hsz0] at hB1
  have HBb := Lib.hid hB1
  have hBW : Below W.heap.size W w1 := Hw0.out.trans (hB1.mono (by omega))
  have HB1 := Lib.hid hBW
  have Hm : Hid (M3 w1 Ad F b0 l0 b1 l1 b2 l2) := ⟨hM1, (HIs.out w1 hBW).1, (HIs.out w1 hBW).2.1, (HIs.out w1 hBW).2.2⟩
  have hsw : W.heap.size + 1 ≤ (W.alloc (.cells #[.slice b0 n0 c0, .slice b1 n1 c1, .slice b2 n2 c2] 40)).heap.size := by omega
  obtain ⟨q0, q1, q2⟩ := HcA.out _ hB1
  clear hM1 hB1 hBW hsz0
  generalize (W.alloc (.cells #[.slice b0 n0 c0, .slice b1 n1 c1, .slice b2 n2 c2] 40)) = W0 at HcA HBb hsw
  cases hok : okB F with
  | false =>
    have Hok := Lib.hid hok
    clear hok
    go_wp2_with (first
      | (go_at_call 16; refine (right_no Ad cd _ F rfl Hok.out w1 hf1 Hf2.out Hm.out.m).mono ?_; rintro e w' ⟨rfl, rfl⟩)
      | (go_at_call 15; refine (live_any _).mono ?_; rintro e w2 ⟨rfl, hB2⟩; replace Hm := Lib.hid (Hm.out.next hB2); have HB2 := Lib.hid (HB1.out.trans (hB2.mono HB1.out.size)); replace HBb := Lib.hid (HBb.out.trans (hB2.mono (by have := HBb.out.size; omega))); replace ⟨q0, q1, q2⟩ := HcA.out _ HBb.out; clear hB2)
      | (go_at_call 14; refine (HS0.out _).mono ?_; rintro e w' ⟨rfl, rfl⟩)
      | (go_at_call 23; refine (ready_no Ad cd _ F rfl Hok.out _ _ w2 hf1 Hf2.out Hm.out.m).mono ?_; rintro e w3 ⟨rfl, hB3⟩; have HB3 := Lib.hid (HB2.out.trans (hB3.mono HB2.out.size)); clear hB3))
    go_ret
    exact ⟨rfl, HB3.out⟩
  | true =>
    obtain ⟨D, hD, hOk⟩ := okB_out hok
    subst hD
    have Hok := Lib.hid hOk
    have hDl : (rowsI D).length = D.length := length_rowsI D
    obtain ⟨n, hn⟩ : ∃ n, n = (rowsI D).length := ⟨_, rfl⟩
    have hnD : n = D.length := by rw [hn, hDl]
    have HnD := Lib.hid hnD
    rw [← hn]
    clear hok hOk hDl hn hnD hf1
    go_wp2_with (first
      | (go_at_call 16; refine (right_yes Ad cd _ D HnD.out Hok.out w1 Hm.out.m).mono ?_; rintro e w' ⟨rfl, rfl⟩)
      | (go_at_call 14; ((with_reducible refine (HS1.out _).mono ?_); rintro e w' ⟨rfl, rfl⟩)))
    refine (close_at Ad cd n D HnD.out Hok.out b1 c1 l1.length l1 rfl (by omega) w1 Hm.out.m Hm.out.i1).mono ?_
    rintro e w2 ⟨A6, c6, rfl, hI6, hB2⟩
    have hdl := length_closeL D Hok.out l1
    obtain ⟨dn, hdn⟩ : ∃ dn, dn = closeL D l1 := ⟨_, rfl⟩
    rw [← hdn] at hI6 hdl
    rw [← hdn]
    have Hdn := Lib.hid hdn
    have Hld := Lib.hid (length_natsI dn).symm
    obtain ⟨mo, hmo⟩ : ∃ mo, mo = closeL D (natsI dn ++ l2) := ⟨_, rfl⟩
    have hml : mo.length ≤ 256 := by rw [hmo]; exact length_closeL D Hok.out _
    have Hlm := Lib.hid (length_natsI mo).symm
    obtain ⟨ra, hra⟩ : ∃ ra, ra = readyL D (natsI dn) l0 := ⟨_, rfl⟩
    obtain ⟨rb, hrb⟩ : ∃ rb, rb = readyL D (natsI mo) l0 := ⟨_, rfl⟩
    have hral : ra.length ≤ 256 := by rw [hra]; exact readyL_small D Hok.out _ _
    have hrbl : rb.length ≤ 256 := by rw [hrb]; exact readyL_small D Hok.out _ _
    have Hra := Lib.hid hra
    have Hrb := Lib.hid hrb
    have Hlra := Lib.hid (length_natsI ra).symm
    have Hlrb := Lib.hid (length_natsI rb).symm
    have hsubd : ∀ x ∈ natsI dn, x ∈ natsI mo := fun x hx => by
      obtain ⟨y, hy, rfl⟩ := List.mem_map.1 hx
      rw [hmo]
      refine mem_natsI.2 (close_has Hok.out.right ?_ (List.mem_append_left _ hx))
      rw [hdn] at hy; exact closeL_lt hy
    have Hin : Hid (∀ x ∈ ra, x ∈ mo ∨ x ∈ rb) := fun x hx => by
      rw [hra] at hx
      rcases ready_more (l' := natsI mo) Hok.out.right (fun y hy => by rw [markI_iff] at hy ⊢; exact ⟨hy.1, hsubd _ hy.2⟩) x hx with h | h
      · exact .inl (markI_nats.1 h).2
      · rw [hrb]; exact .inr h
    have Hlen : Hid (dn.length ≤ mo.length) := by
      unfold Hid
      have h1 : dn = closeL D (natsI dn) := by rw [hdn, close_close Hok.out.right]
      rw [h1, hmo]
      exact close_len Hok.out.right (fun x hx => List.mem_append_left _ hx)
    have hlen' : (dn.length : Int) ≤ (mo.length : Int) := by have := Hlen.out; omega
    have hsz : (natsI dn ++ l2).length ≤ 100000 := by rw [List.length_append, ← Hld.out]; omega
    obtain ⟨sm, hsm⟩ : ∃ sm, sm = natsI dn ++ l2 := ⟨_, rfl⟩
    have Hsm := Lib.hid hsm
    rw [← hsm] at hmo hsz
    have Hmo := Lib.hid hmo
    have Hsz := Lib.hid hsz
    replace Hm := Lib.hid (Hm.out.next hB2)
    have HI6 := Lib.hid hI6
    have HB2 := Lib.hid (HB1.out.trans (hB2.mono HB1.out.size))
    replace HBb := Lib.hid (HBb.out.trans (hB2.mono (by have := HBb.out.size; omega)))
    replace ⟨q0, q1, q2⟩ := HcA.out _ HBb.out
    clear hI6 hB2 hdn hmo hra hrb hsubd hsm hsz
    go_wp2_with fail
    have hBr : Below w2.heap.size w2 w2.drew := (Below.refl _ w2).drew
    have q2d : w2.drew.cell? ⟨W.heap.size, 2, none⟩ = some (.slice b2 n2 c2) := q2
    have Hm0 : Hid (M3 w2.drew Ad (rowsI D) b0 l0 b1 l1 b2 l2) := Hm.out.next hBr
    have HI60 : Hid (Ints w2.drew w2.drew.heap.size A6 (natsI dn)) := HI6.out.next hBr
    have HBd : Hid (Below W.heap.size W w2.drew) := HB2.out.drew
    have HBbd : Hid (Below (W.heap.size + 1) W0 w2.drew) := HBb.out.drew
    refine wp_region_held_drew (S := fun w' => w'.cell? ⟨W.heap.size, 2, none⟩ = some (.slice b2 n2 c2)) (by kernel_rfl) q2d (fun hHeld => ?_)
    obtain ⟨wd, hwd⟩ : ∃ wd, wd = w2.drew := ⟨_, rfl⟩
    rw [← hwd] at Hm0 HI60 HBd HBbd hHeld ⊢
    clear hBr hwd Hm HI6 HBb HB2 q0 q1 q2 q2d
    refine takeH (i := 0) (some 31) (v := ?_) rfl rfl (by kernel_rfl) (by kernel_rfl) (by kernel_rfl) (fun _ _ _ h => h) (by rfl) ?_ (by assumption) ?_
    rotate_left
    · (intro w hSw; (try dsimp only at hSw); go_simp; try with_reducible rfl)
    simp only [Act.put, List.setIfInBounds_toArray, List.set_cons_zero, List.set_cons_succ]
    refine takeH (i := 2) (some 33) (v := ?_) rfl rfl (by kernel_rfl) (by kernel_rfl) (by kernel_rfl) (fun _ _ _ h => h) (by rfl) ?_ (by assumption) ?_
    rotate_left
    · (intro w hSw; (try dsimp only at hSw); go_simp; try with_reducible rfl)
    simp only [Act.put, List.setIfInBounds_toArray, List.set_cons_zero, List.set_cons_succ]
    refine takeH (i := 4) (some 35) (v := ?_) rfl rfl (by kernel_rfl) (by kernel_rfl) (by kernel_rfl) (fun _ _ _ h => h) (by rfl) ?_ (by assumption) ?_
    rotate_left
    · (intro w hSw; (try dsimp only at hSw); go_simp; try with_reducible rfl)
    simp only [Act.put, List.setIfInBounds_toArray, List.set_cons_zero, List.set_cons_succ]
    refine takeH (i := 5) (some 36) (v := ?_) rfl rfl (by kernel_rfl) (by kernel_rfl) (by kernel_rfl) (fun _ _ _ h => h) (by rfl) ?_ (by assumption) ?_
    rotate_left
    · (intro w hSw; (try dsimp only at hSw); go_simp; try with_reducible rfl)
    simp only [Act.put, List.setIfInBounds_toArray, List.set_cons_zero, List.set_cons_succ]
    have Hmw : Hid (∀ w', Below wd.heap.size wd w' → Mat w' w'.heap.size Ad (rowsI D)) := fun w' hb => Hm0.out.m.next hb
    have HIdn : Hid (∀ w', Below wd.heap.size wd w' → Ints w' w'.heap.size A6 (natsI dn)) := fun w' hb => HI60.out.next hb
    have Hwd0 := Lib.hid (Nat.le_refl wd.heap.size)
    refine wpAnyH_ready (rs := [1]) (by kernel_rfl) (by simp) ?_
    refine (AllReadyH.cons rfl (fun K hK => ?_) AllReadyH.nil)
    go_simp
    have hown5 := own_empty_ints wd
    have hBn : Below wd.heap.size wd (wd.alloc (.cells #[] 3)) := (Below.refl _ _).alloc (Nat.le_refl _) _
    obtain ⟨we, hwe⟩ : ∃ we, we = wd.alloc (.cells #[] 3) := ⟨_, rfl⟩
    obtain ⟨g5, hg5⟩ : ∃ g5, g5 = wd.heap.size := ⟨_, rfl⟩
    rw [← hwe] at hown5 hBn ⊢
    have hge : W.heap.size + 1 ≤ g5 := by rw [hg5]; have := HBbd.out.size; omega
    have hg5' : g5 ≤ we.heap.size := by rw [hg5]; exact hBn.size
    have hgd5 : wd.heap.size ≤ g5 := by rw [hg5]; exact Nat.le_refl _
    have HBwe := Lib.hid hBn
    replace Hm0 := Lib.hid (Hm0.out.next hBn)
    replace HI60 := Lib.hid (HI60.out.next hBn)
    replace HBd := Lib.hid (HBd.out.trans (hBn.mono HBd.out.size))
    replace HBbd := Lib.hid (HBbd.out.trans (hBn.mono (by have := HBbd.out.size; omega)))
    rw [← hg5] at hown5 ⊢
    have Hown5 := Lib.hid hown5
    clear hown5 hBn hwe hg5
    refine hK _ _ (by show World.cell? _ _ = _; exact (HcA.out _ HBbd.out).2.2) (fun hHeld => ?_)
    clear hK K
    try simp only [Act.put, List.setIfInBounds_toArray, List.set_cons_zero, List.set_cons_succ]
    have hgd : wd.heap.size ≤ g5 := hgd5
    have HBw := HBwe
    refine wpAnyH_ready (rs := [3]) (by kernel_rfl) (by simp) ?_
    refine (AllReadyH.cons rfl (fun K hK => ?_) AllReadyH.nil)
    refine step_of rfl (wp_append_ints (.tmp 32) (.tmp 33) rfl g5 _ 0 [] rfl Hown5.out _ A6 (natsI dn) c6 dn.length Hld.out rfl HI60.out (by omega) hg5' ?_)
    intro v6 w6 hown6 hgrow6
    rw [Nat.zero_add, List.nil_append] at hown6
    have hBg : Below g5 we w6 := (Below.refl g5 we).grown hgrow6 hg5' (fun j e => by obtain ⟨h1, _⟩ := Hown5.out.lt j e; exact h1)
    have hG6 : Below (W.heap.size + 1) we w6 := hBg.mono hge
    have hm6 : M3 w6 Ad (rowsI D) b0 l0 b1 l1 b2 l2 := by have hx := HBd.out.trans (hG6.mono (by omega)); exact ⟨Hmw.out w6 (HBw.out.trans (hBg.mono hgd)), (HIs.out w6 hx).1, (HIs.out w6 hx).2.1, (HIs.out w6 hx).2.2⟩
    replace Hm0 := Lib.hid hm6
    replace HBd := Lib.hid (HBd.out.trans (hG6.mono (by omega)))
    replace HBbd := Lib.hid (HBbd.out.trans hG6)
    have hge6 : g5 ≤ w6.heap.size := Nat.le_trans hg5' hgrow6.size
    have Hown6 := Lib.hid hown6
    replace HBw := Lib.hid (HBw.out.trans (hBg.mono hgd))
    clear hown6 hgrow6 hBg hG6 hm6 Hown5
    refine hK _ _ (by show World.cell? _ _ = _; exact (HcA.out _ HBbd.out).2.2) (fun hHeld => ?_)
    clear hK K
    try simp only [Act.put, List.setIfInBounds_toArray, List.set_cons_zero, List.set_cons_succ]
    refine wpAnyH_ready (rs := [6]) (by kernel_rfl) (by simp) ?_
    refine (AllReadyH.cons rfl (fun K hK => ?_) AllReadyH.nil)
    go_simp
    ((with_reducible refine (HS2.out _).mono ?_); rintro e w' ⟨rfl, rfl⟩)
    refine hK _ _ (by show World.cell? _ _ = _; exact (HcA.out _ HBbd.out).2.2) (fun hHeld => ?_)
    clear hK K
    try simp only [Act.put, List.setIfInBounds_toArray, List.set_cons_zero, List.set_cons_succ]
    refine wpAnyH_ready (rs := [7]) (by kernel_rfl) (by simp) ?_
    refine (AllReadyH.cons rfl (fun K hK => ?_) AllReadyH.nil)
    refine step_of rfl (wp_append_ints (.tmp 34) (.tmp 37) rfl g5 _ dn.length (intsV (natsI dn)) rfl Hown6.out _ b2 l2 c2 l2.length rfl rfl Hm0.out.i2 (by omega) hge6 ?_)
    intro v7 w7 hown7 hgrow7
    rw [intsV_app, ← Hsm.out] at hown7
    have hBg : Below g5 w6 w7 := (Below.refl g5 w6).grown hgrow7 hge6 (fun j e => by obtain ⟨h1, _⟩ := Hown6.out.lt j e; exact h1)
    have hG7 : Below (W.heap.size + 1) w6 w7 := hBg.mono hge
    have hx := HBd.out.trans (hG7.mono (by omega))
    replace Hm0 : Hid (M3 w7 Ad (rowsI D) b0 l0 b1 l1 b2 l2) := ⟨Hmw.out w7 (HBw.out.trans (hBg.mono hgd)), (HIs.out w7 hx).1, (HIs.out w7 hx).2.1, (HIs.out w7 hx).2.2⟩
    replace HBd := Lib.hid hx
    replace HBbd := Lib.hid (HBbd.out.trans hG7)
    have HI67 : Hid (Ints w7 w7.heap.size A6 (natsI dn)) := HIdn.out w7 (HBw.out.trans (hBg.mono hgd))
    obtain ⟨A7, c7, rfl, _, _, hI7⟩ := own_ints hown7
    have HI7 := Lib.hid hI7
    clear hown7 hgrow7 hBg hG7 hx hI7 Hown6 HBw
    refine hK _ _ (by show World.cell? _ _ = _; exact (HcA.out _ HBbd.out).2.2) (fun hHeld => ?_)
    clear hK K
    try simp only [Act.put, List.setIfInBounds_toArray, List.set_cons_zero, List.set_cons_succ]
    refine wpAnyH_ready (rs := [8]) (by kernel_rfl) (by simp) ?_
    refine (AllReadyH.cons rfl (fun K hK => ?_) AllReadyH.nil)
    go_simp
    refine (close_at Ad cd n D HnD.out Hok.out A7 c7 sm.length sm rfl Hsz.out w7 Hm0.out.m HI7.out).mono ?_
    rintro e w8 ⟨A8, c8, rfl, hI8, hB8⟩
    rw [← Hmo.out] at hI8 ⊢
    replace Hm0 := Lib.hid (Hm0.out.next hB8)
    replace HI67 := Lib.hid (HI67.out.next hB8)
    replace HBbd := Lib.hid (HBbd.out.trans (hB8.mono (by have := HBbd.out.size; omega)))
    replace HBd := Lib.hid (HBd.out.trans (hB8.mono HBd.out.size))
    have HI8 := Lib.hid hI8
    clear hB8 hI8 HI7
    refine hK _ _ (by show World.cell? _ _ = _; exact (HcA.out _ HBbd.out).2.2) (fun hHeld => ?_)
    clear hK K
    try simp only [Act.put, List.setIfInBounds_toArray, List.set_cons_zero, List.set_cons_succ]
    refine takeH (i := 9) (some 7) (v := ?_) rfl rfl (by kernel_rfl) (by kernel_rfl) (by kernel_rfl) (fun _ _ _ h => h) (by rfl) ?_ (by assumption) ?_
    rotate_left
    · (intro w hSw; (try dsimp only at hSw); go_simp; try with_reducible rfl)
    simp only [Act.put, List.setIfInBounds_toArray, List.set_cons_zero, List.set_cons_succ]
    refine wpAnyH_done (by kernel_rfl) ?_ _
    obtain ⟨q0, q1, q2⟩ := HcA.out _ HBbd.out
    have Hre := Lib.hid (ready_yes Ad cd n D HnD.out Hok.out A6 c6 dn.length (natsI dn) Hld.out (by rw [← Hld.out]; omega) b0 c0 l0.length l0 rfl (by omega) w8 Hm0.out.m HI67.out Hm0.out.i0)
    rw [← Hra.out] at Hre
    go_wp2_with (first
      | (go_at_call 14; ((with_reducible refine (HS0.out _).mono ?_); rintro e w' ⟨rfl, rfl⟩)))
    refine Hre.out.mono ?_
    rintro e w9 ⟨A9, c9, rfl, hI9, hB9⟩
    replace Hm0 := Lib.hid (Hm0.out.next hB9)
    have HI89 := Lib.hid (HI8.out.next hB9)
    replace HBbd := Lib.hid (HBbd.out.trans (hB9.mono (by have := HBbd.out.size; omega)))
    replace HBd := Lib.hid (HBd.out.trans (hB9.mono HBd.out.size))
    replace ⟨q0, q1, q2⟩ := HcA.out _ HBbd.out
    have HI9 := Lib.hid hI9
    have Hre2 := Lib.hid (ready_yes Ad cd n D HnD.out Hok.out A8 c8 mo.length (natsI mo) Hlm.out (by rw [← Hlm.out]; omega) b0 c0 l0.length l0 rfl (by omega) w9 Hm0.out.m HI89.out Hm0.out.i0)
    rw [← Hrb.out] at Hre2
    clear hB9 hI9 Hre HI67 HI8
    go_wp2_with (first
      | (go_at_call 14; ((with_reducible refine (HS0.out _).mono ?_); rintro e w' ⟨rfl, rfl⟩)))
    refine Hre2.out.mono ?_
    rintro e wa ⟨Aa, ca, rfl, hIa, hBa⟩
    have HIa := Lib.hid hIa
    have HI9a := Lib.hid (HI9.out.next hBa)
    have HI8a := Lib.hid (HI89.out.next hBa)
    replace HBd := Lib.hid (HBd.out.trans (hBa.mono HBd.out.size))
    clear hIa hBa Hre2 HI9 HI89 HBbd q0 q1 q2 Hm0
    go_wp2_with fail
    go_loop [10] (fun i => ∃ p : Nat, p ≤ ra.length ∧ i = .int .i64 p) (fun i => ra.length - (intOf i).toNat)
    case atStart => exact ⟨0, Nat.zero_le _, rfl⟩
    case round =>
      obtain ⟨p, hp, rfl⟩ := hrel
      by_cases hlt : p < ra.length
      · have hlti : (p : Int) < (ra.length : Int) := by omega
        have hp0 : (0 : Int) ≤ (p : Int) := by omega
        obtain ⟨b, off, rfl, hb, hc⟩ := HI9a.out.at_ (k := p) (by rw [length_natsI]; exact hlt)
        rw [nth_nats ra p hlt] at hc
        have hor := Hin.out (el ra p) (by rw [el_lt hlt]; exact List.getElem_mem _)
        obtain ⟨x, hx⟩ : ∃ x, x = el ra p := ⟨_, rfl⟩
        rw [← hx] at hc hor
        clear hx
        have Hh1 := Lib.hid (has_any Aa ca rb.length (natsI rb) (x : Int) wa _ Hlrb.out (by rw [← Hlrb.out]; omega) HIa.out)
        have Hh2 := Lib.hid (has_any A8 c8 mo.length (natsI mo) (x : Int) wa _ Hlm.out (by rw [← Hlm.out]; omega) HI8a.out)
        by_cases hin : (x : Int) ∈ natsI rb
        · rw [decide_eq_true hin] at Hh1
          clear hin hor
          go_wp2_with (go_at_call 34; ((with_reducible refine Hh1.out.mono ?_); rintro e w' ⟨rfl, rfl⟩))
          go_round
          case rel => exact ⟨p + 1, by omega, by go_num⟩
          case measure => simp [intOf]; omega
        · rw [decide_eq_false hin] at Hh1
          have hm2 : (x : Int) ∈ natsI mo := by
            rcases hor with h | h
            · exact mem_natsI.2 h
            · exact absurd (mem_natsI.2 h) hin
          rw [decide_eq_true hm2] at Hh2
          clear hin hor hm2
          go_wp2_with (first
            | (go_at_call 34; ((with_reducible refine Hh1.out.mono ?_); rintro e w' ⟨rfl, rfl⟩))
            | (go_at_call 34; ((with_reducible refine Hh2.out.mono ?_); rintro e w' ⟨rfl, rfl⟩)))
          go_round
          case rel => exact ⟨p + 1, by omega, by go_num⟩
          case measure => simp [intOf]; omega
      · have hlti : ¬ (p : Int) < (ra.length : Int) := by omega
        obtain rfl : p = ra.length := by omega
        go_wp2_with (go_at_call 15; refine (live_any _).mono ?_; rintro e wz ⟨rfl, hBz⟩; have HBz := Lib.hid (HBd.out.trans (hBz.mono HBd.out.size)); clear hBz)
        go_ret
        exact ⟨rfl, HBz.out⟩
end Go.Proofs.Ytmekffcpbjmffaa
