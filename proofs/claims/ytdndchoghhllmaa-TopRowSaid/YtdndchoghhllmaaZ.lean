/- The walk over all that some groups come behind: what it gives. -/
import Derived.Test.YtdndchoghhllmaaY
set_option linter.unusedVariables false
set_option linter.unusedSimpArgs false
namespace Go.Proofs.Ytdndchoghhllmaa
open Go.RowKit Go.Maps Go.Sort Go.Shelf
attribute [local go_sem] Oper.semAt_some
/-- how many entries the map in a block has -/
def msize (w : World) (b : Nat) : Nat := match w.heap[b]? with
  | some (.map es _) => es.size
  | _ => 0
theorem msize_of {w : World} {b d : Nat} {xs : List Int} (h : SetAt w b d xs) (hnd : xs.Nodup) : msize w b = xs.length := by
  obtain ⟨D, h1, h2⟩ := h
  have hs := keys_size hnd h1 h2
  obtain ⟨es, clock, hb, F, _, hD⟩ := h1
  have : Maps.size D = es.size := by rw [hD]; simp [Maps.size, length_sorted]
  unfold msize
  rw [hb]
  show es.size = _
  omega
/-- the walk between two groups: xs came, r is left -/
structure Wk (l : List Gp) (so p xs r : List Int) : Prop where
  nd : xs.Nodup
  sub : ∀ y ∈ xs, y ∈ p
  rin : ∀ y ∈ r, y ∈ so ∨ y ∈ xs
  cl : ∀ m, (m ∈ so ∨ m ∈ xs) → m ∈ r ∨ ∀ y ∈ (ofN l m).a, y ∈ xs
  len : r.length ≤ so.length + xs.length
/-- within a group m0 -/
structure Wi (l : List Gp) (so p xs r : List Int) (m0 : Int) (left : Lit → Bool) (X0 R0 : Nat) : Prop where
  nd : xs.Nodup
  sub : ∀ y ∈ xs, y ∈ p
  rin : ∀ y ∈ r, y ∈ so ∨ y ∈ xs
  cl : ∀ m, (m ∈ so ∨ m ∈ xs) → m ∈ r ∨ m = m0 ∨ ∀ y ∈ (ofN l m).a, y ∈ xs
  dn : ∀ y ∈ (ofN l m0).a, left (.int .i64 y) = false → y ∈ xs
  len : r.length ≤ so.length + xs.length
  eq : r.length + X0 = R0 + xs.length
/-- p are all that some come behind -/
def AllFar (l : List Gp) (so p : List Int) : Prop := p.Nodup ∧ ∀ y, y ∈ p ↔ ∃ n ∈ so, Far l n y
theorem Wk.start {l : List Gp} {so p : List Int} : Wk l so p [] so := ⟨List.nodup_nil, fun y h => (by cases h), fun y h => .inl h, fun m h => (by rcases h with h | h; exact .inl h; cases h), by simp⟩
theorem Wk.all {l : List Gp} {so p xs : List Int} (h : Wk l so p xs []) (hp : AllFar l so p) : xs.Perm p := by
  refine (List.perm_ext_iff_of_nodup h.nd hp.1).2 fun y => ⟨h.sub y, fun hy => ?_⟩
  obtain ⟨n, hn, hf⟩ := (hp.2 y).1 hy
  have key : ∀ m q, Far l m q → (m ∈ so ∨ m ∈ xs) → q ∈ xs := by
    intro m q hf
    induction hf with
    | one h1 =>
      intro hm
      rcases h.cl _ hm with z | z
      · cases z
      · exact z _ h1
    | step h1 _ ih =>
      intro hm
      rcases h.cl _ hm with z | z
      · cases z
      · exact ih (.inr (z _ h1))
  exact key n y hf (.inl hn)
theorem Wk.enter {l : List Gp} {so p xs r : List Int} {m0 : Int} (h : Wk l so p xs (m0 :: r)) {left : Lit → Bool} (hl : ∀ y ∈ (ofN l m0).a, left (.int .i64 y) = true) : Wi l so p xs r m0 left xs.length r.length :=
  ⟨h.nd, h.sub, fun y hy => h.rin y (List.mem_cons_of_mem _ hy), fun m hm => by
    rcases h.cl m hm with z | z
    · rcases List.mem_cons.1 z with e | e
      · exact .inr (.inl e)
      · exact .inl e
    · exact .inr (.inr z), fun y hy e => (by rw [hl y hy] at e; cases e), (by have := h.len; simp only [List.length_cons] at this; omega), rfl⟩
theorem Wi.leave {l : List Gp} {so p xs r : List Int} {m0 : Int} {left : Lit → Bool} {X0 R0 : Nat} (h : Wi l so p xs r m0 left X0 R0) (hl : ∀ kl, left kl = false) : Wk l so p xs r :=
  ⟨h.nd, h.sub, h.rin, fun m hm => by
    rcases h.cl m hm with z | z | z
    · exact .inl z
    · right; rw [z]; exact fun y hy => h.dn y hy (hl _)
    · exact .inr z, h.len⟩
theorem Wi.skip {l : List Gp} {so p xs r : List Int} {m0 : Int} {left : Lit → Bool} {X0 R0 : Nat} (h : Wi l so p xs r m0 left X0 R0) {x : Int} (hx : x ∈ xs) : Wi l so p xs r m0 (fun z => left z && !z.sameKey (.int .i64 x)) X0 R0 :=
  ⟨h.nd, h.sub, h.rin, h.cl, fun y hy e => by
    by_cases q : y = x
    · rw [q]; exact hx
    · exact h.dn y hy ((strike_other left q).symm.trans e), h.len, h.eq⟩
theorem Wi.step {l : List Gp} {so p xs r : List Int} {m0 : Int} {left : Lit → Bool} {X0 R0 : Nat} (h : Wi l so p xs r m0 left X0 R0) {x : Int} (hx : x ∉ xs) (hp : x ∈ p) : Wi l so p (xs ++ [x]) (r ++ [x]) m0 (fun z => left z && !z.sameKey (.int .i64 x)) X0 R0 := by
  refine ⟨List.nodup_append.2 ⟨h.nd, by simp, fun a ha b hb e => hx (by rw [List.mem_singleton] at hb; rw [← hb, ← e]; exact ha)⟩, fun y hy => ?_, fun y hy => ?_, fun m hm => ?_, fun y hy e => ?_, ?_, ?_⟩
  · rcases List.mem_append.1 hy with q | q
    · exact h.sub y q
    · rw [List.mem_singleton] at q; rw [q]; exact hp
  · rcases List.mem_append.1 hy with q | q
    · rcases h.rin y q with z | z
      · exact .inl z
      · exact .inr (List.mem_append_left _ z)
    · exact .inr (List.mem_append_right _ q)
  · by_cases e : m = x
    · left; rw [e]; simp
    · have hm' : m ∈ so ∨ m ∈ xs := by
        rcases hm with q | q
        · exact .inl q
        · rcases List.mem_append.1 q with q | q
          · exact .inr q
          · rw [List.mem_singleton] at q; exact absurd q e
      rcases h.cl m hm' with z | z | z
      · exact .inl (List.mem_append_left _ z)
      · exact .inr (.inl z)
      · exact .inr (.inr fun y hy => List.mem_append_left _ (z y hy))
  · by_cases q : y = x
    · rw [q]; simp
    · exact List.mem_append_left _ (h.dn y hy ((strike_other left q).symm.trans e))
  · have := h.len; simp only [List.length_append, List.length_singleton]; omega
  · have := h.eq; simp only [List.length_append, List.length_singleton]; omega
theorem clone_row {w : World} {B : Nat} (A : Option Addr) (c : Nat) (l : List Int) (hl : l.length ≤ 100000) (hr : RowI w B A c l) : Calls Try.prog 60 #[.slice A l.length c] w fun e w' => ∃ A' c', e = .returned (.slice A' l.length c') ∧ RowI w' w.heap.size A' c' l ∧ Below w.heap.size w w' := by
  rcases hr.2 with ⟨q, hn⟩ | ⟨g, cap, cur, q, hB, hg, _⟩
  · obtain ⟨rfl, _, rfl⟩ := Value.slice.inj q
    exact clone_any none 0 l w hl hr.ints (.inr rfl)
  · obtain ⟨rfl, _, rfl⟩ := Value.slice.inj q
    obtain ⟨i0, i1, i2, i3, i4⟩ := infoI2
    have hc := (row_srcI hr).1 ⟨g, 0, none⟩ rfl
    refine (AnyE.slices_Clone Try.clone i0 (.int .i64 0) 1 8 i1 i2 i3 i4 rfl (by decide) Try.sizeOf3 g 0 l.length c (intsV l) w (by rw [length_intsV]; omega) (by unfold maxLen; omega) (by omega) (fun j u hu => by have := hc j u hu; rwa [Addr.add_lit] at this) (intsV_one l)).mono fun e w' ⟨v, q1, q2, _, q4⟩ => ?_
    obtain ⟨A', c', rfl, hr'⟩ := (own_ints q2).2
    exact ⟨A', c', q1, hr', q4⟩
end Go.Proofs.Ytdndchoghhllmaa
