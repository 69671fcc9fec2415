/- The program's groups: Make. -/
import Derived.Test.YtdndchoghhllmaaR
set_option linter.unusedVariables false
set_option linter.unusedSimpArgs false
namespace Go.Proofs.Ytdndchoghhllmaa
open Go.RowKit Go.Maps Go.Sort Go.Shelf
/-- the keys of a map are the numbers that it holds -/
theorem keys_perm {w : World} {b c : Nat} {R : Value → Option (DataW Value × List MemPlace)} {p : List Int} (hp : p.Nodup) {D : DataW Value} (h1 : w.ownsMap Try.prog 3 R b c D) (h2 : ∀ x : Int, Maps.has D (.int .i64 x) = true ↔ x ∈ p) : p.Perm (intKeys D) := by
  obtain ⟨es, hD, hpw, hk⟩ := h1.entries lawI
  obtain ⟨es', hD', hko⟩ := h1.keysOf
  obtain rfl : es = es' := by rw [hD] at hD'; simpa using hD'
  subst hD
  exact perm_intKeys hpw (fun p hp => by obtain ⟨v, hv⟩ := hko p hp; obtain ⟨x, _, hx, _⟩ := Maps.keyOf_i64 Try.underlying3 hv; exact ⟨x, hx⟩) hp (fun x => (h2 x).symm)
theorem keys_size {w : World} {b c : Nat} {R : Value → Option (DataW Value × List MemPlace)} {p : List Int} (hp : p.Nodup) {D : DataW Value} (h1 : w.ownsMap Try.prog 3 R b c D) (h2 : ∀ x : Int, Maps.has D (.int .i64 x) = true ↔ x ∈ p) : Maps.size D = p.length := by
  have h := (keys_perm hp h1 h2).length_eq
  obtain ⟨es, hD, _⟩ := h1.entries lawI
  subst hD
  rw [h]
  simp [intKeys, Maps.size]
/-- a group more -/
theorem PrgAt.ins {B c d : Nat} {w w' : World} {g mb : Nat} {L : List Pr} {k k' : Int} (h : PrgAt B c w g mb L k) (L' : List Pr) (q : Pr) (hL : ∀ p, p ∈ L' ↔ p ∈ L ∨ p = q) (hnd : (nos (gp L')).Nodup) (hno : q.g.n ∉ nos (gp L)) {S : Nat → Prop} (hk : Kept w w' S) (hS : ∀ b, S b → b = g ∨ b = mb) (hcd : c ≤ d)
    (hh : w'.heap[g]? = some (.cells #[.int .i64 (k' - 1), .map (some mb)] 67 (0, 0))) {D : DataW Value} (hD : Maps.IsMap D) (m2 : ∀ x, Maps.has D (.int .i64 x) = true ↔ x ∈ nos (gp L)) (m3 : ∀ q ∈ L, ∀ z, D.atKey (.int .i64 q.g.n) z = .held (.pointer (some ⟨q.b, 0, none⟩)))
    (hm : w'.ownsMap Try.prog 3 RV mb d (D.put (.int .i64 q.g.n) (.held (.pointer (some ⟨q.b, 0, none⟩))))) (h1 : w'.heap[q.b]? = some (.cells q.cs 63 (0, 0))) (h2 : SetAt w' q.pm d q.g.p) (h3 : SetAt w' q.am d q.g.a)
    (hf : ∀ b, q.has b → w.heap.size ≤ b) (hd : q.b ≠ q.pm ∧ q.b ≠ q.am ∧ q.pm ≠ q.am) (hB : B ≤ w.heap.size) : PrgAt B d w' g mb L' k' := by
  have hg := h.glt
  have hml := h.mlt
  have hne : ∀ p ∈ L, ∀ b, p.has b → ¬ S b := fun p hp b hb s => by
    obtain ⟨o1, o2, o3, o4, o5, o6, _⟩ := h.ap.one p hp
    rcases hS b s with e | e <;> subst e <;> rcases hb with e | e | e
    · exact o1 e.symm
    · exact o3 e.symm
    · exact o5 e.symm
    · exact o2 e.symm
    · exact o4 e.symm
    · exact o6 e.symm
  have hltp : ∀ p ∈ L, ∀ b, p.has b → b < w.heap.size := fun p hp b hb => h.lt b (.inr (.inr ⟨p, hp, hb⟩))
  refine ⟨hh, ⟨_, hm, fun x => ?_, fun p hp z => ?_⟩, hnd, fun p hp => ?_, fun p hp => ?_, fun p hp => ?_, ⟨h.ap.gm, fun p hp => ?_, fun p hp p' hp' hne' b hb hb' => ?_⟩, h.lo.1, h.lo.2.1, fun p hp b hb => ?_⟩
  · by_cases e : x = q.g.n
    · rw [e, Maps.has_put_same hD (isKey _)]
      exact ⟨fun _ => in_nos (List.mem_map.2 ⟨q, (hL q).2 (.inr rfl), rfl⟩), fun _ => rfl⟩
    · rw [Maps.has_put_other (ne_key e), m2 x]
      constructor
      · intro hx
        obtain ⟨y, hy, ey⟩ := List.mem_map.1 hx
        obtain ⟨p, hp, rfl⟩ := List.mem_map.1 hy
        rw [← ey]
        exact in_nos (List.mem_map.2 ⟨p, (hL p).2 (.inl hp), rfl⟩)
      · intro hx
        obtain ⟨y, hy, ey⟩ := List.mem_map.1 hx
        obtain ⟨p, hp, rfl⟩ := List.mem_map.1 hy
        rcases (hL p).1 hp with z | z
        · rw [← ey]; exact in_nos (List.mem_map.2 ⟨p, z, rfl⟩)
        · rw [z] at ey; exact absurd ey.symm e
  · rcases (hL p).1 hp with e | e
    · have hne2 : p.g.n ≠ q.g.n := fun z => hno (by rw [← z]; exact in_nos (List.mem_map.2 ⟨p, e, rfl⟩))
      rw [Maps.atKey_put_other (ne_key hne2)]
      exact m3 p e z
    · rw [e]; exact Maps.atKey_put_same hD (isKey _) _ z
  · rcases (hL p).1 hp with e | e
    · exact (hk.block p.b (hltp p e _ (.inl rfl)) (hne p e _ (.inl rfl))).trans (h.ones p e)
    · rw [e]; exact h1
  · rcases (hL p).1 hp with e | e
    · exact ((h.pats p e).keep hk (hne p e _ (.inr (.inl rfl)))).more hcd
    · rw [e]; exact h2
  · rcases (hL p).1 hp with e | e
    · exact ((h.ahs p e).keep hk (hne p e _ (.inr (.inr rfl)))).more hcd
    · rw [e]; exact h3
  · rcases (hL p).1 hp with e | e
    · exact h.ap.one p e
    · rw [e]
      have f1 := hf q.b (.inl rfl)
      have f2 := hf q.pm (.inr (.inl rfl))
      have f3 := hf q.am (.inr (.inr rfl))
      exact ⟨by omega, by omega, by omega, by omega, by omega, by omega, hd.1, hd.2.1, hd.2.2⟩
  · rcases (hL p).1 hp with e | e <;> rcases (hL p').1 hp' with e' | e'
    · exact h.ap.two p e p' e' hne' b hb hb'
    · rw [e'] at hb'; have := hltp p e b hb; have := hf b hb'; omega
    · rw [e] at hb; have := hltp p' e' b hb'; have := hf b hb; omega
    · rw [e, e'] at hne'; exact hne' rfl
  · rcases (hL p).1 hp with e | e
    · exact h.lo.2.2 p e b hb
    · rw [e] at hb; exact Nat.le_trans hB (hf b hb)
/-- the world in which a new group has been laid -/
def mkW (w : World) (k : Int) (g x y : Nat) : World := ((((w.setCell ⟨g, 0, none⟩ (.int .i64 (k + 1))).alloc (.map #[] 0)).alloc (.map #[] 0)).alloc (.cells #[.int .u8 1, .map (some x), .map (some y)] 63)).drew
section
variable (B c g mb : Nat) (L : List Pr) (k : Int) (w : World)
set_option maxHeartbeats 1000000 in
theorem make_laid (h : PrgAt B c w g mb L (k + 1)) (hw : WfI (k + 1)) (hc : c < 1000000) (hlt : ∀ n ∈ nos (gp L), n < k + 1) (hB : B ≤ w.heap.size) (x y : Nat) (hxy : (x = w.heap.size ∧ y = w.heap.size + 1) ∨ (x = w.heap.size + 1 ∧ y = w.heap.size)) :
    ∃ W', (Instr.mapUpdate 65 (.map (some mb)) (.int .i64 (k + 1)) (.pointer (some ⟨w.heap.size + 1 + 1, 0, none⟩))).run Try.prog (mkW w k g x y) = .ok () W' ∧ W'.cell? ⟨g, 0, none⟩ = some (.int .i64 (k + 1)) ∧ PWent B (c + 1) w g mb L (Gs.make ⟨gp L, k + 1⟩) W' := by
  obtain ⟨D, m1, m2, m3⟩ := h.map
  have hg := h.glt
  have hml := h.mlt
  have hgm := h.ap.gm
  have k0 := Kept.set w g 0 (.int .i64 (k + 1))
  have hh0 := heap_setCell_same w g 0 _ 67 (.int .i64 (k + 1)) h.head
  obtain ⟨w2, hw2⟩ : ∃ w2, w2 = w.setCell ⟨g, 0, none⟩ (.int .i64 (k + 1)) := ⟨_, rfl⟩
  rw [← hw2] at k0 hh0
  have hs2 : w2.heap.size = w.heap.size := by rw [hw2]; simp
  have hB2 : Below w2.heap.size w2 (mkW w k g x y) := by
    unfold mkW
    rw [← hw2]
    exact ((((Below.refl _ w2).alloc (Nat.le_refl _) _).alloc (by simp) _).alloc (by simp; omega) _).drew
  have m1' := (Kept.fresh (S := fun _ => False) hB2).map (k0.map m1 (fun e => hgm e.symm)) (fun q => q)
  obtain ⟨W', hrun, hm, hgr⟩ := m1'.update lawI Try.underlying65 (show c < maxLen by unfold maxLen; omega) (keyI hw) (show RV (.pointer (some ⟨w.heap.size + 1 + 1, 0, none⟩)) = some (.held (.pointer (some ⟨w.heap.size + 1 + 1, 0, none⟩)), []) from rfl)
  have kAll : Kept w W' (fun b => b = g ∨ b = mb) := ((k0.more (S' := fun b => b = g ∨ b = mb) (fun b e => .inl (.inl e))).trans (Kept.fresh (S := fun b => b = g ∨ b = mb) hB2) (fun b q => .inl q)).trans (Kept.grown (S := fun b => b = g ∨ b = mb) hgr (fun b e => by cases e; exact .inl (.inr rfl))) (fun b q => .inl q)
  have hhd : W'.heap[g]? = some (.cells #[.int .i64 (k + 1 + 1 - 1), .map (some mb)] 67 (0, 0)) := by
    rw [hgr.block g (by have := hB2.size; omega) (fun e => hgm (Option.some.inj e)), hB2.block g (by omega), hh0, show k + 1 + 1 - 1 = k + 1 by omega]
    rfl
  have hsz : (mkW w k g x y).heap.size = w.heap.size + 3 := by unfold mkW; rw [← hw2]; simp; omega
  have hnew : ∀ b, b < w.heap.size + 3 → w.heap.size ≤ b → W'.heap[b]? = (mkW w k g x y).heap[b]? := fun b h1 h2 => hgr.block b (by omega) (fun e => by have := Option.some.inj e; omega)
  have hE0 : (mkW w k g x y).heap[w.heap.size]? = some (.map #[] 0) := by
    unfold mkW
    rw [← hw2, ← hs2]
    show (((w2.alloc (.map #[] 0)).alloc (.map #[] 0)).alloc _).heap[w2.heap.size]? = _
    rw [Below.heap_alloc _ _ _ (by simp; omega), Below.heap_alloc _ _ _ (by simp)]
    exact heap_alloc_new w2 _
  have hE1 : (mkW w k g x y).heap[w.heap.size + 1]? = some (.map #[] 0) := by
    unfold mkW
    rw [← hw2, ← hs2]
    show (((w2.alloc (.map #[] 0)).alloc (.map #[] 0)).alloc _).heap[w2.heap.size + 1]? = _
    rw [Below.heap_alloc _ _ _ (by simp)]
    have := heap_alloc_new (w2.alloc (.map #[] 0)) (.map #[] 0)
    simpa using this
  have hE2 : (mkW w k g x y).heap[w.heap.size + 2]? = some (.cells #[.int .u8 1, .map (some x), .map (some y)] 63 (0, 0)) := by
    unfold mkW
    rw [← hw2, ← hs2]
    show (((w2.alloc (.map #[] 0)).alloc (.map #[] 0)).alloc _).heap[w2.heap.size + 2]? = _
    have := heap_alloc_new ((w2.alloc (.map #[] 0)).alloc (.map #[] 0)) (.cells #[.int .u8 1, .map (some x), .map (some y)] 63)
    simpa using this
  have hset : ∀ b, b = w.heap.size ∨ b = w.heap.size + 1 → SetAt W' b (c + 1) [] := fun b hb => by
    have hb1 : W'.heap[b]? = some (.map #[] 0) := by rw [hnew b (by omega) (by omega)]; rcases hb with e | e <;> rw [e]; exact hE0; exact hE1
    obtain ⟨D0, ⟨es, clock, z1, z2, z3, z4⟩, z5⟩ := set_made w2
    have hz := (MapKept.heap_alloc w2 (.map #[] 0)).1
    rw [z1] at hz
    refine ⟨D0, ⟨es, clock, by rw [hb1]; exact hz.symm, z2, by omega, z4⟩, z5⟩
  have hx := hset x (by omega)
  have hy := hset y (by omega)
  have hno : k + 1 ∉ nos (gp L) := fun q => by have := hlt _ q; omega
  have hnos : nos (gp (L ++ [⟨⟨k + 1, 1, [], []⟩, w.heap.size + 2, x, y⟩])) = nos (gp L) ++ [k + 1] := by simp [gp, nos]
  refine ⟨W', hrun, cell_of_row W' g 0 _ _ (0, 0) hhd |>.trans (by simp), L ++ [⟨⟨k + 1, 1, [], []⟩, w.heap.size + 2, x, y⟩], ?_, by simp [gp, Gs.make], kAll.more (fun b e => .inl (e.imp id .inl)), fun b hb => ?_⟩
  · refine h.ins (S := fun b => b = g ∨ b = mb) _ ⟨⟨k + 1, 1, [], []⟩, w.heap.size + 2, x, y⟩ (fun p => by simp) ?_ hno kAll (fun b e => e) (Nat.le_succ c) hhd m1.isMap m2 m3 hm ?_ hx hy ?_ ?_ hB
    · rw [hnos]
      exact List.nodup_append.2 ⟨h.nd, by simp, fun a ha b hb e => hno (by rw [List.mem_singleton] at hb; rw [← hb, ← e]; exact ha)⟩
    · rw [hnew _ (by show w.heap.size + 2 < _; omega) (by show _ ≤ w.heap.size + 2; omega)]; exact hE2
    · rintro b (e | e | e) <;> (dsimp only at e; omega)
    · show w.heap.size + 2 ≠ x ∧ w.heap.size + 2 ≠ y ∧ x ≠ y
      omega
  · rcases hb with hb | hb | ⟨p, hp, hb⟩
    · exact .inl (.inl hb)
    · exact .inl (.inr (.inl hb))
    · rcases List.mem_append.1 hp with e | e
      · exact .inl (.inr (.inr ⟨p, e, hb⟩))
      · rw [List.mem_singleton] at e
        rw [e] at hb
        right; rcases hb with e | e | e <;> (dsimp only at e; omega)
set_option maxRecDepth 100000 in
set_option maxHeartbeats 4000000 in
theorem make_any (h : PrgAt B c w g mb L (k + 1)) (hk0 : 0 ≤ k) (hk1 : k < 100000000) (hc : c < 1000000) (hlt : ∀ n ∈ nos (gp L), n < k + 1) (hB : B ≤ w.heap.size) : Calls Try.prog 27 #[.pointer (some ⟨g, 0, none⟩)] w fun e w' =>
    e = .returned (if Gs.makeE ⟨gp L, k + 1⟩ = 0 then .tuple #[.int .i64 (k + 1), .int .i64 0] else .tuple #[.int .i64 0, .int .i64 11]) ∧ PWent B (c + 1) w g mb L (if Gs.makeE ⟨gp L, k + 1⟩ = 0 then Gs.make ⟨gp L, k + 1⟩ else ⟨gp L, k + 1⟩) w' := by
  have HS := Lib.hid (PWent.same (d := c + 1) h (Nat.le_succ c) (Below.refl _ _))
  obtain ⟨c0, c1⟩ := h.hcells
  have hf0 := h.free 0
  have hg := h.glt
  rw [show k + 1 - 1 = k by omega] at c0
  obtain ⟨D, m1, m2, m3⟩ := h.map
  have M1 := Lib.hid m1
  have hsz := keys_size h.nd m1 m2
  rw [length_nos, length_gp] at hsz
  by_cases h8 : 8 ≤ L.length
  · have H0 : Hid (Gs.makeE ⟨gp L, k + 1⟩ = 11) := by unfold Hid Gs.makeE; rw [length_gp, if_pos h8]
    rw [H0.out, if_neg (by decide), if_neg (by decide)]
    have h8i : ((8 : Int) ≤ (Maps.size D : Int)) := by omega
    clear h m1 m2 m3 hlt
    go_enter Try.func27, Try.ntmps27
    go_wp2_with (at_len; refine wpList_len_own _ rfl _ 65 rfl 3 53 Try.underlying65 RV mb c D rfl M1.out ?_)
    go_ret2
    exact ⟨rfl, HS.out⟩
  · have H0 : Hid (Gs.makeE ⟨gp L, k + 1⟩ = 0) := by unfold Hid Gs.makeE; rw [length_gp, if_neg h8]
    rw [H0.out, if_pos rfl, if_pos rfl]
    have h8i : ¬ ((8 : Int) ≤ (Maps.size D : Int)) := by omega
    have hmm := @run_makeMap Try.prog
    have hwf : WfI (k + 1) := ⟨by omega, by omega⟩
    obtain ⟨W5, hr5, hc5, hp5⟩ := make_laid B c g mb L k w h hwf hc hlt hB _ _ (.inl ⟨rfl, rfl⟩)
    obtain ⟨W6, hr6, hc6, hp6⟩ := make_laid B c g mb L k w h hwf hc hlt hB _ _ (.inr ⟨rfl, rfl⟩)
    have H5 := Lib.hid hp5
    have H6 := Lib.hid hp6
    unfold mkW at hr5 hr6
    clear h m1 m2 m3 hlt hp5 hp6
    go_enter Try.func27, Try.ntmps27
    go_wp2_with (at_len; refine wpList_len_own _ rfl _ 65 rfl 3 53 Try.underlying65 RV mb c D rfl M1.out ?_)
    have s2 : (w.setCell ⟨g, 0, none⟩ (.int .i64 (k + 1))).heap.size = w.heap.size := by simp
    have e0 : (w.setCell ⟨g, 0, none⟩ (.int .i64 (k + 1))).cell? ⟨g, 0, none⟩ = some (.int .i64 (k + 1)) := World.cell?_setCell_same w ⟨g, 0, none⟩ _ c0
    have e1 : (w.setCell ⟨g, 0, none⟩ (.int .i64 (k + 1))).cell? ⟨g, 1, none⟩ = some (.map (some mb)) := (World.cell?_setCell_other w ⟨g, 0, none⟩ ⟨g, 1, none⟩ _ (by simp)).trans c1
    rw [← s2] at hr5 hr6 hg
    generalize w.setCell ⟨g, 0, none⟩ (.int .i64 (k + 1)) = w2 at *
    clear c0 c1 hf0 s2
    have hg1 : g < w2.heap.size + 1 := by omega
    have hg2 : g < w2.heap.size + 1 + 1 := by omega
    have hn0 : g ≠ w2.heap.size := by omega
    have hn1 : g ≠ w2.heap.size + 1 := by omega
    have hn2 : g ≠ w2.heap.size + 1 + 1 := by omega
    go_region
    all_goals go_wp2
    all_goals go_ret2
    · exact ⟨rfl, H5.out⟩
    · exact ⟨rfl, H6.out⟩
end
end Go.Proofs.Ytdndchoghhllmaa
