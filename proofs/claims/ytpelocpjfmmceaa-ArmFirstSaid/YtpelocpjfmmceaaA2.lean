/- The arm, plain: what stays true of it. No program is imported. -/
import Derived.Test.YtpelocpjfmmceaaA
set_option linter.unusedVariables false
set_option linter.unusedSimpArgs false
namespace Go.Proofs.Ytpelocpjfmmceaa

theorem bestK_in (f : Int → Int → Bool) (l : List Int) {k : Nat} (h0 : 0 < k) (hk : k ≤ l.length) : bestK f l k ∈ l := by
  induction k with
  | zero => omega
  | succ k ih =>
    unfold bestK
    by_cases h : k = 0 ∨ f (inn l k) (bestK f l k) = true
    · rw [if_pos h]; exact inn_mem (by omega)
    · rw [if_neg h]; exact ih (by omega) (by omega)
theorem bestL_mem {f : Int → Int → Bool} {l : List Int} (h : 0 < l.length) : bestL f l ∈ l := bestK_in f l h (Nat.le_refl _)
theorem upp_in {s : Nat} {l : List Int} {b : Int} (h : b ∈ upL s l) : b ∈ l ∧ (s : Int) ≤ b := by
  unfold upL at h; rw [List.mem_filter] at h; exact ⟨h.1, by simpa using h.2⟩
theorem downn_in {s : Nat} {l : List Int} {b : Int} (h : b ∈ downL s l) : b ∈ l ∧ b ≤ (s : Int) := by
  unfold downL at h; rw [List.mem_filter] at h; exact ⟨h.1, by simpa using h.2⟩
theorem mem_up {s : Nat} {l : List Int} {b : Int} (h : b ∈ l) (h2 : (s : Int) ≤ b) : b ∈ upL s l := by
  unfold upL; rw [List.mem_filter]; exact ⟨h, by simpa using h2⟩
theorem mem_down {s : Nat} {l : List Int} {b : Int} (h : b ∈ l) (h2 : b ≤ (s : Int)) : b ∈ downL s l := by
  unfold downL; rw [List.mem_filter]; exact ⟨h, by simpa using h2⟩
theorem not_empty {l : List Int} (h : l.isEmpty = false) : 0 < l.length := by
  cases l with
  | nil => simp at h
  | cons a r => simp
theorem empty_no {l : List Int} (h : l.isEmpty = true) (b : Int) : b ∉ l := by
  cases l with
  | nil => simp
  | cons a r => simp at h
theorem one_side {s : Nat} {l : List Int} (h : 0 < l.length) : (upL s l).isEmpty = true → (downL s l).isEmpty = false := by
  intro h1
  cases h2 : (downL s l).isEmpty with
  | false => rfl
  | true =>
    exfalso
    have hm := inn_mem h
    rcases Int.le_total (s : Int) (inn l 0) with q | q
    · exact empty_no h1 _ (mem_up hm q)
    · exact empty_no h2 _ (mem_down hm q)
theorem scan_mem {s : Nat} {u : Bool} {l : List Int} (h : 0 < l.length) : (scanL s u l).1 ∈ l := by
  unfold scanL
  cases u with
  | true =>
    simp only [if_true]
    cases h1 : (upL s l).isEmpty with
    | true => simp only [if_true]; exact (downn_in (bestL_mem (not_empty (one_side h h1)))).1
    | false => simp only [Bool.false_eq_true, if_false]; exact (upp_in (bestL_mem (not_empty h1))).1
  | false =>
    simp only [Bool.false_eq_true, if_false]
    cases h1 : (downL s l).isEmpty with
    | true =>
      simp only [if_true]
      have : (upL s l).isEmpty = false := by
        cases h2 : (upL s l).isEmpty with
        | false => rfl
        | true => rw [one_side h h2] at h1; cases h1
      exact (upp_in (bestL_mem (not_empty this))).1
    | false => simp only [Bool.false_eq_true, if_false]; exact (downn_in (bestL_mem (not_empty h1))).1
theorem cyc_mem {s : Nat} {l : List Int} (h : 0 < l.length) : cycL s l ∈ l := by
  unfold cycL
  cases h1 : (upL s l).isEmpty with
  | true => simp only [if_true]; exact bestL_mem h
  | false => simp only [Bool.false_eq_true, if_false]; exact (upp_in (bestL_mem (not_empty h1))).1
theorem oldI_mem {l : List Rq} {b : Int} (h : oldI l = some b) : b ∈ blk l := by
  unfold oldI at h
  rw [Option.map_eq_some_iff] at h
  obtain ⟨r, hr, rfl⟩ := h
  exact List.mem_map.2 ⟨r, List.mem_of_find?_eq_some hr, rfl⟩
theorem mem_blk {l : List Rq} {b : Int} (h : b ∈ blk l) : ∃ r ∈ l, r.b = b := List.mem_map.1 h
theorem blk_drop (l : List Rq) (b : Int) : blk (dropL l b) = (blk l).filter fun y => !(y == b) := by
  unfold blk dropL isB
  rw [List.filter_map]
  rfl
theorem blk_aged (l : List Rq) : blk (agedL l) = blk l := by
  unfold blk agedL
  rw [List.map_map]
  rfl
theorem drop_len (l : List Rq) (b : Int) : (dropL l b).length ≤ l.length := List.length_filter_le _ _
theorem aged_len (l : List Rq) : (agedL l).length = l.length := by simp [agedL]
theorem mem_drop {l : List Rq} {b : Int} {r : Rq} (h : r ∈ dropL l b) : r ∈ l ∧ r.b ≠ b := by
  unfold dropL isB at h
  rw [List.mem_filter] at h
  exact ⟨h.1, by simpa using h.2⟩
theorem mem_aged {l : List Rq} {r : Rq} (h : r ∈ agedL l) : ∃ q ∈ l, r = ⟨q.b, q.a + 1⟩ := by
  unfold agedL at h
  rw [List.mem_map] at h
  obtain ⟨q, hq, rfl⟩ := h
  exact ⟨q, hq, rfl⟩
theorem far_le0 (i j n : Nat) (hi : i < 1024) (hj : j < 1024) (hn : 1 ≤ n) (hn64 : n ≤ 64) : far i j n ≤ 1100 := by
  have h1 : i / n ≤ i := Nat.div_le_self _ _
  have h2 : j / n ≤ j := Nat.div_le_self _ _
  have h3 : i % n < n := Nat.mod_lt _ (by omega)
  have h4 : j % n < n := Nat.mod_lt _ (by omega)
  unfold far
  generalize i / n = a at *
  generalize j / n = b at *
  generalize i % n = c at *
  generalize j % n = d at *
  have e1 : ((b : Int) - a).natAbs ≤ 1023 := by omega
  have e2 : ((d : Int) - c).natAbs ≤ 63 := by omega
  omega
namespace Ar
theorem choose_mem {x : Ar} (h : 0 < x.l.length) : x.choose.1 ∈ blk x.l := by
  have hb : 0 < (blk x.l).length := by rw [length_blk]; exact h
  unfold choose
  cases ho : oldI x.l with
  | some b => exact oldI_mem ho
  | none =>
    simp only
    by_cases h2 : x.p = 2
    · rw [if_pos h2]; exact bestL_mem hb
    · rw [if_neg h2]
      by_cases h3 : x.p = 3
      · rw [if_pos h3]; exact scan_mem hb
      · rw [if_neg h3]
        by_cases h4 : x.p = 4
        · rw [if_pos h4]; exact cyc_mem hb
        · rw [if_neg h4]; exact inn_mem hb
theorem Ok.blk_in {c : Nat} {x : Ar} (h : Ok c x) {b : Int} (hb : b ∈ blk x.l) : 0 ≤ b ∧ b < 1024 := by
  obtain ⟨r, hr, rfl⟩ := mem_blk hb
  exact h.rng r hr
theorem Ok.more {c d : Nat} {x : Ar} (h : Ok c x) (hd : c ≤ d) : Ok d x :=
  ⟨h.p0, h.p1, h.n0, h.n1, h.s1, by have := h.m1; omega, h.len, h.rng, h.nd, fun r hr => by obtain ⟨h1, h2, h3⟩ := h.age0 r hr; exact ⟨h1, by omega, h3⟩⟩
theorem Ok.gone {c : Nat} {x : Ar} (h : Ok c x) {b : Int} (hb : b ∈ blk x.l) (u : Bool) : Ok (c + 1) (x.gone b u) := by
  obtain ⟨h0, h1⟩ := h.blk_in hb
  have hf := far_le0 x.s b.toNat x.n h.s1 (by omega) h.n0 h.n1
  have hm := h.m1
  refine ⟨h.p0, h.p1, h.n0, h.n1, by show b.toNat < 1024; omega, by show x.m + _ ≤ _; omega, ?_, ?_, ?_, ?_⟩
  · show (agedL (dropL x.l b)).length ≤ 24
    rw [aged_len]; exact Nat.le_trans (drop_len _ _) h.len
  · intro r hr
    obtain ⟨q, hq, rfl⟩ := mem_aged hr
    exact h.rng q (mem_drop hq).1
  · show (blk (agedL (dropL x.l b))).Nodup
    rw [blk_aged, blk_drop]
    exact h.nd.sublist List.filter_sublist
  · intro r hr
    obtain ⟨q, hq, rfl⟩ := mem_aged hr
    obtain ⟨q1, q2⟩ := mem_drop hq
    obtain ⟨a1, a2, a3⟩ := h.age0 q q1
    refine ⟨by show 0 ≤ q.a + 1; omega, by show q.a + 1 ≤ _; omega, fun _ => ?_⟩
    show q.b ≠ (b.toNat : Int)
    rw [show ((b.toNat : Int)) = b by omega]
    exact q2
theorem Ok.next {c : Nat} {x : Ar} (h : Ok c x) (h0 : 0 < x.l.length) : Ok (c + 1) x.next := h.gone (choose_mem h0) _
theorem Ok.ask {c : Nat} {x : Ar} (h : Ok c x) (b : Int) : Ok c (x.ask b) := by
  unfold Ar.ask
  by_cases he : x.askE b = 0
  · rw [if_pos he]
    unfold askE at he
    by_cases h1 : b < 0 ∨ 1024 ≤ b
    · rw [if_pos h1] at he; cases he
    rw [if_neg h1] at he
    cases h2 : hasR x.l b with
    | true => rw [h2] at he; simp at he
    | false =>
      rw [h2] at he
      simp only [Bool.false_eq_true, if_false] at he
      by_cases h3 : 24 ≤ x.l.length
      · rw [if_pos h3] at he; cases he
      · refine ⟨h.p0, h.p1, h.n0, h.n1, h.s1, h.m1, by show (x.l ++ [_]).length ≤ 24; rw [List.length_append]; simp; omega, ?_, ?_, ?_⟩
        · intro r hr
          rcases List.mem_append.1 hr with q | q
          · exact h.rng r q
          · obtain rfl : r = ⟨b, 0⟩ := by simpa using q
            exact ⟨by show 0 ≤ b; omega, by show b < 1024; omega⟩
        · show (blk (x.l ++ [⟨b, 0⟩])).Nodup
          unfold blk
          rw [List.map_append, List.nodup_append]
          refine ⟨h.nd, by simp, ?_⟩
          intro a ha y hy
          obtain rfl : y = b := by simpa using hy
          intro e
          subst e
          exact hasR_no.1 h2 ha
        · intro r hr
          rcases List.mem_append.1 hr with q | q
          · exact h.age0 r q
          · obtain rfl : r = ⟨b, 0⟩ := by simpa using q
            exact ⟨by show (0 : Int) ≤ 0; omega, by show (0 : Int) ≤ (c : Int); omega, fun q => absurd q (by show ¬ (0 : Int) < 0; omega)⟩
  · rw [if_neg he]; exact h
theorem Ok.cancel {c : Nat} {x : Ar} (h : Ok c x) (b : Int) : Ok c (x.cancel b) :=
  ⟨h.p0, h.p1, h.n0, h.n1, h.s1, h.m1, Nat.le_trans (drop_len _ _) h.len, fun r hr => h.rng r (mem_drop hr).1, by
    show (blk (dropL x.l b)).Nodup
    rw [blk_drop]
    exact h.nd.sublist List.filter_sublist, fun r hr => h.age0 r (mem_drop hr).1⟩
theorem Ok.setP {c : Nat} {x : Ar} (h : Ok c x) (p : Nat) : Ok c (x.setP p) := by
  unfold Ar.setP
  by_cases hp : 1 ≤ p ∧ p ≤ 4
  · rw [if_pos hp]; exact ⟨hp.1, hp.2, h.n0, h.n1, h.s1, h.m1, h.len, h.rng, h.nd, h.age0⟩
  · rw [if_neg hp]; exact h
end Ar
end Go.Proofs.Ytpelocpjfmmceaa
