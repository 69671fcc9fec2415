/- Spoil and Flush, over all that a disk holds. -/
import Derived.Test.YtieeibdhaoaeaaaKH
set_option linter.unusedVariables false
set_option linter.unusedSimpArgs false
namespace Go.Proofs.Ytieeibdhaoaeaaa
open Go.RowKit

theorem diskL_set (n : Int) (L : List Int) (B : List Bool) (mb i : Nat) (b : Bool) (hL : L.length = 3072) (hi : i < B.length) : (diskL n L B mb).set (3073 + i) (.bool b) = diskL n L (B.set i b) mb := by
  unfold diskL heldL
  have h1 : ([Value.int .i64 n] ++ bytesV L).length = 3073 := by simp [length_bytesV, hL]
  rw [List.append_assoc, List.set_append_right _ _ (by rw [h1]; omega), h1, show 3073 + i - 3073 = i by omega, List.set_append_left _ _ (by simpa using hi)]
  simp [List.map_set]
section
variable {w : World} {g n c : Nat} {S : Nat → Bk} {F : Nat → Prop}
theorem cspoil_no (h : Code w g n S c F) (i : Int) (hi : ¬ (0 ≤ i ∧ i < n)) (b : Bool) : Calls Try.prog 23 #[.pointer (some ⟨g, 0, none⟩), .int .i64 i, .bool b] w fun e w' => e = .returned (.int .i64 2) ∧ w = w' := by
  have A := Lib.hid (ask_code h i hi w (Below.refl _ _))
  clear h hi
  go_enter Try.func23, Try.ntmps23
  go_wp2_with fail
  refine A.out.mono ?_
  rintro e w' ⟨rfl, rfl⟩
  go_wp2
  go_ret
  exact ⟨rfl, rfl⟩
set_option maxRecDepth 100000 in
theorem spoil_yes (g : Nat) (n : Int) (L : List Int) (B : List Bool) (mb i : Nat) (b : Bool) (w : World) (h : DiskAt w g n L B mb) (hi : (i : Int) < n) :
    Calls Try.prog 23 #[.pointer (some ⟨g, 0, none⟩), .int .i64 (i : Int), .bool b] w fun e w' => e = .returned (.int .i64 0) ∧ BlkIs w' g 80 (diskL n L (B.set i b) mb) ∧ Kept w w' (fun k => k = g) := by
  have hi96 : i < 96 := by have := h.hi; omega
  have hii0 : (0 : Int) ≤ (i : Int) := by omega
  have hii1 : (i : Int) < 96 := by omega
  have A := Lib.hid (ask_yes g n i w h.c0 hi)
  have hbad := h.bad hi96
  have hfr : w.frozen? ⟨g, 3073 + i, none⟩ = false := h.blk.frozen _
  have HS : Hid (BlkIs (w.setCell ⟨g, 3073 + i, none⟩ (.bool b)) g 80 (diskL n L (B.set i b) mb)) := by
    have := h.blk.set_ (3073 + i) (.bool b)
    rw [diskL_set n L B mb i b h.lenL (by rw [h.lenB]; exact hi96)] at this
    exact this
  clear h
  go_enter Try.func23, Try.ntmps23
  go_wp2_with fail
  refine A.out.mono ?_
  rintro e w' ⟨rfl, rfl⟩
  go_wp2
  go_ret
  exact ⟨rfl, HS.out, Kept.grown (setCell_grown _ _ _) (fun k e => by cases e; exact .inl rfl)⟩
theorem getD_set (B : List Bool) (i j : Nat) (b : Bool) (hi : i < B.length) : (B.set i b).getD j false = if j = i then b else B.getD j false := by
  simp only [List.getD_eq_getElem?_getD, List.getElem?_set]
  by_cases e : i = j
  · subst e; simp [hi]
  · simp [e, Ne.symm e]
theorem cspoil (h : Code w g n S c F) {i : Nat} (hi : i < n) (b : Bool) :
    Calls Try.prog 23 #[.pointer (some ⟨g, 0, none⟩), .int .i64 (i : Int), .bool b] w fun e w' => e = .returned (.int .i64 0) ∧ Went w w' F (Code w' g n (upd S i ⟨(S i).s, (S i).v, b⟩) c) := by
  obtain ⟨L, B, mb, k, D, V, A, C, h, rfl⟩ := h
  refine (spoil_yes g n L B mb i b w h.disk (by omega)).mono ?_
  rintro e w' ⟨rfl, hb, hk⟩
  have hlb := h.disk.lenB
  have h96 := h.n96
  refine ⟨rfl, _, ⟨L, B.set i b, mb, k, D, V, A, C, ⟨⟨hb, h.disk.lo, h.disk.hi, h.disk.lenL, by simp [hlb], h.disk.allL⟩, hk.map h.map (Ne.symm h.gm), h.kc, h.keys, h.here, h.gone, fun j hj => hk.row (h.row j hj) (fun x hx => h.row_g hj (by rw [own_eq] at hx; exact hx)), h.ok, ?_, ?_, ?_, ?_, h.apart⟩, rfl⟩, hk.more (fun x q => .inl (.inl q)), fun x q => .inl q⟩
  · intro j hj
    by_cases e : j = i
    · subst e; rw [upd_same]; exact h.sec j hj
    · rw [upd_other _ _ e]; exact h.sec j hj
  · intro j hj
    rw [getD_set B i j b (by omega)]
    by_cases e : j = i
    · subst e; rw [upd_same]; simp
    · rw [upd_other _ _ e, if_neg e]; exact h.bad j hj
  · intro j hj
    by_cases e : j = i
    · subst e; rw [upd_same]; exact h.ver j hj
    · rw [upd_other _ _ e]; exact h.ver j hj
  · intro j hj
    by_cases e : j = i
    · subst e; rw [upd_same]; exact h.few j hj
    · rw [upd_other _ _ e]; exact h.few j hj
/-- nothing waits any more -/
theorem CodeAt.empty {w w' : World} {g n c mb k k' : Nat} {S S' : Nat → Bk} {L L' : List Int} {B : List Bool} {D D' : DataW Value} {V : Nat → List Run} {A : Nat → Option Addr} {C : Nat → Nat} (h : CodeAt w g n S c L B mb k D V A C)
    (hd : DiskAt w' g n L' B mb) (hm : w'.ownsMap Try.prog 3 RV mb k' D') (hk' : k' ≤ c) (hno : ∀ i : Int, Maps.has D' (.int .i64 i) = false) (hs : ∀ j, j < n → Go.Proofs.Ytieeibdhaoaeaaa.sec L' j = (S' j).s) (hv : ∀ j, j < n → (S' j).v = []) (hb : ∀ j, j < n → (S' j).b = (S j).b)
    (hk : Kept w w' (foot g n mb A)) : Went w w' (foot g n mb A) (Code w' g n S' c) := by
  refine ⟨_, ⟨L', B, mb, k', D', fun _ => [], fun _ => none, fun _ => 0, ⟨hd, hm, hk', ?_, ?_, ?_, ?_, ?_, hs, ?_, ?_, ?_, ?_⟩, rfl⟩, hk, ?_⟩
  · intro i hi; rw [hno i] at hi; cases hi
  · intro j _ hne; exact absurd rfl hne
  · intro j _ _; exact ⟨hno _, rfl, rfl⟩
  · intro j _; exact World.ownsRow_nil _ _ _ _
  · intro j _ x hx; cases hx
  · intro j hj; rw [hb j hj]; exact h.bad j hj
  · intro j hj; rw [hv j hj]; rfl
  · intro j hj; rw [hv j hj]; exact Nat.zero_le _
  · intro i j _ _ _ b hb; cases hb
  · rintro b (q | q | ⟨j, _, q⟩)
    · exact .inl (.inl q)
    · exact .inl (.inr (.inl q))
    · cases q
/-- all that was written lasts -/
def Bk.flushed (b : Bk) : Bk := ⟨b.now, [], b.b⟩
theorem CodeAt.now {w : World} {g n c mb k : Nat} {S : Nat → Bk} {L : List Int} {B : List Bool} {D : DataW Value} {V : Nat → List Run} {A : Nat → Option Addr} {C : Nat → Nat} (h : CodeAt w g n S c L B mb k D V A C) {j : Nat} (hj : j < n) (he : V j ≠ []) :
    ∃ gv q, A j = some ⟨gv, 0, none⟩ ∧ (V j).length = q + 1 ∧ gv < w.heap.size ∧ w.rangeAt gv (q * 33) (bytesV (S j).now) ∧ (S j).now.length = 32 ∧ AllB (S j).now := by
  obtain ⟨V0, x, hV⟩ := snoc (V j) he
  have hlen : (V j).length = V0.length + 1 := by rw [hV]; simp
  have hok := h.ok j hj
  have hver := h.ver j hj
  obtain ⟨gv, hA, hgl, hr⟩ := run_row (h.row j hj) hok (k := V0.length) (by omega)
  have hx : (V j)[V0.length]'(by omega) = x := by simp [hV]
  rw [hx] at hr
  rw [hV] at hok hver
  have hx3 := hok x (by simp)
  have hn : (S j).now = x.1 := by unfold Bk.now; rw [← hver, unrun_last hx3.2.2]; rfl
  refine ⟨gv, V0.length, hA, hlen, hgl, ?_, by rw [hn]; exact hx3.1, by rw [hn]; exact hx3.2.1⟩
  rw [hn]
  intro i u hi
  have hi' : i < 32 := by
    rcases Nat.lt_or_ge i 32 with h1 | h1
    · exact h1
    · rw [List.getElem?_eq_none (by rw [length_bytesV, hx3.1]; exact h1)] at hi; cases hi
  refine hr i u ?_
  rw [rowL, List.getElem?_append_left (by rw [length_bytesV, hx3.1]; exact hi')]; exact hi
theorem cflush (h : Code w g n S c F) (hc : c < 100000) :
    Calls Try.prog 15 #[.pointer (some ⟨g, 0, none⟩)] w fun e w' => e = .returned (.int .i64 0) ∧ Went w w' F (Code w' g n (fun j => (S j).flushed) c) := by
  obtain ⟨L, B, mb, k, D, V, A, C, h, rfl⟩ := h
  have h96 := h.n96
  refine (flush_any g n L B mb k D (fun j => (S j).now) w h.disk h.map h.gm ?_).mono ?_
  · intro i hi
    obtain ⟨j, rfl, hj⟩ := h.keys i hi
    rw [h.has_eq hj] at hi
    have he : V j ≠ [] := by intro e; rw [e] at hi; simp at hi
    obtain ⟨gv, q, hA, hl, hgl, hr, h1, h2⟩ := h.now hj he
    have hle := h.len_le hj
    have hown : own (A j) = some gv := by rw [hA]; rfl
    exact ⟨j, gv, q, C j, rfl, by omega, fun z => by rw [h.here j hj he z, hA, hl], by omega, hr, h1, h2, h.row_g hj hown, h.row_m hj hown, hgl⟩
  · rintro e w' ⟨rfl, D', L', hm, hno, hd, hs, hT⟩
    refine ⟨rfl, h.empty hd hm h.kc (fun i => hno _) (fun j hj => ?_) (fun j _ => rfl) (fun j _ => rfl) ⟨hT.os, hT.tape, hT.output, hT.size, fun b hb hn => hT.block b hb (fun q => hn (.inl q)) (fun q => hn (.inr (.inl q)))⟩⟩
    rw [hs j (by omega), h.has_eq hj]
    by_cases he : V j = []
    · rw [he, if_neg (by simp), h.sec j hj]
      show (S j).s = (S j).now
      unfold Bk.now
      rw [← h.ver j hj, he]; rfl
    · rw [if_pos (by cases hv : V j with | nil => exact absurd hv he | cons a b => rfl)]
      rfl
end
end Go.Proofs.Ytieeibdhaoaeaaa
