/- Those that wait on a block; one taken out of a row. -/
import Derived.Test.YtegacggkdjgdiaaEB
import Derived.Test.YtegacggkdjgdiaaH4
import Derived.Great.BuildSlice
import Derived.Laws.CopyOwn
import Derived.Deep.AppendLies
set_option linter.unusedVariables false
set_option linter.unusedSimpArgs false
namespace Go.Proofs.Ytegacggkdjgdiaa
open Go.RowKit

/-- what an engine's cells hold: its disk, its next number, its row -/
structure HeadAt (w : World) (ge gd : Nat) (k : Int) (v : Value) : Prop where
  head : w.heap[ge]? = some (.cells #[.pointer (some ⟨gd, 0, none⟩), .int .i64 k, v] 74 (0, 0))
namespace HeadAt
variable {w w' : World} {ge gd : Nat} {k : Int} {v : Value}
theorem lt (h : HeadAt w ge gd k v) : ge < w.heap.size := (Array.getElem?_eq_some_iff.1 h.head).1
theorem c0 (h : HeadAt w ge gd k v) : w.cell? ⟨ge, 0, none⟩ = some (.pointer (some ⟨gd, 0, none⟩)) := cell_of_row w ge 0 _ 74 (0, 0) h.head
theorem c1 (h : HeadAt w ge gd k v) : w.cell? ⟨ge, 1, none⟩ = some (.int .i64 k) := cell_of_row w ge 1 _ 74 (0, 0) h.head
theorem c2 (h : HeadAt w ge gd k v) : w.cell? ⟨ge, 2, none⟩ = some v := cell_of_row w ge 2 _ 74 (0, 0) h.head
theorem free (h : HeadAt w ge gd k v) (j : Nat) : w.frozen? ⟨ge, j, none⟩ = false := frozen_of_row w ge j _ 74 h.head
theorem fresh (h : HeadAt w ge gd k v) (hb : Below w.heap.size w w') : HeadAt w' ge gd k v := ⟨by rw [hb.block ge h.lt]; exact h.head⟩
theorem keep {F : Nat → Prop} (h : HeadAt w ge gd k v) (hk : Kept w w' F) (hF : ¬ F ge) : HeadAt w' ge gd k v := ⟨by rw [hk.block ge h.lt hF]; exact h.head⟩
theorem ni (h : HeadAt w ge gd k v) : NI w (fun b => b = ge) := NI.of_type h.head (by decide)
end HeadAt
theorem onL_step {l : List Wr} {k : Nat} (hk : k < l.length) (b : Int) : onL (l.take (k + 1)) b = if (wn l k).p.b = b then onL (l.take k) b ++ [wn l k] else onL (l.take k) b := by
  unfold onL
  rw [take_wn hk, List.filter_append]
  by_cases e : (wn l k).p.b = b
  · rw [if_pos e]; simp [e]
  · rw [if_neg e]; simp [e]
theorem cs_src {w : World} (x : Wr) : ∀ ad, some (⟨w.heap.size, 0, none⟩ : Addr) = some ad → ∀ j u, x.cs[j]? = some u → (w.alloc (.cells x.cs.toArray 90)).cell? (ad.add j) = some u := fun ad e j u hu => by
  cases e
  exact World.news_of_block (heap_alloc_new w _) j u (by simpa using hu)

set_option maxRecDepth 100000 in
set_option maxHeartbeats 2000000 in
theorem on_any (B ge gd : Nat) (k : Int) (A : Option Addr) (c : Nat) (l : List Wr) (i : Int) (w : World) (hH : HeadAt w ge gd k (.slice A l.length c)) (hR : RowW w B A c l) (hl : l.length ≤ 1000) :
    Calls Try.prog 55 #[.pointer (some ⟨ge, 0, none⟩), .int .i64 i] w fun e w' => ∃ A' c', e = .returned (.slice A' (onL l i).length c') ∧ RowW w' w.heap.size A' c' (onL l i) ∧ Below w.heap.size w w' := by
  have e2 := hH.c2
  have HR := Lib.hid hR
  obtain ⟨i0, hi0, hz0, hz1, hz2⟩ := info_parts infoW
  clear hH hR
  go_enter Try.func55, Try.ntmps55
  go_wp2
  go_loopw [5, 13] (fun s q wr => ∃ (j : Nat) (A' : Option Addr) (c' : Nat), j ≤ l.length ∧ q = .int .i64 j ∧ s = .slice A' (onL (l.take j) i).length c' ∧ Hid (RowW wr w.heap.size A' c' (onL (l.take j) i)) ∧ Below w.heap.size w wr) (fun _ q _ => l.length - (intOf q).toNat)
  case atStart => exact ⟨0, none, 0, Nat.zero_le _, rfl, rfl, RowW.nil _ _, Below.refl _ _⟩
  case round =>
    obtain ⟨j, A', c', hj, rfl, rfl, hrow, hB⟩ := hrel
    rename World => wr
    have HB := Lib.hid hB
    have hsz := hB.size
    by_cases hlt : j < l.length
    · have hlti : (j : Int) < (l.length : Int) := by omega
      have hj0 : (0 : Int) ≤ (j : Int) := by omega
      obtain ⟨ab, hA, h3, h4, hb, hcs, _⟩ := (HR.out.fresh hB).at_ hlt
      have Hst := Lib.hid (onL_step hlt i)
      have Hah : Hid (AhAt wr (wn l j)) := (HR.out.fresh hB).ah _ (wn_mem hlt)
      have hlen : (onL (l.take j) i).length ≤ j := by have := (onL_sub (l.take j) i).length_le; rw [List.length_take] at this; omega
      subst hA
      unfold maxLen at h4
      clear hB
      have c0 := hcs 0 (by omega)
      have c1 := hcs 1 (by omega)
      have c2 := hcs 2 (by omega)
      have c3 := hcs 3 (by omega)
      have c4 := hcs 4 (by omega)
      have c5 := hcs 5 (by omega)
      clear hcs
      obtain ⟨M, hM⟩ : ∃ M, M = onL (l.take j) i := ⟨_, rfl⟩
      rw [← hM] at hrow Hst hlen ⊢
      obtain ⟨M2, hM2⟩ : ∃ M2, M2 = onL (l.take (j + 1)) i := ⟨_, rfl⟩
      rw [← hM2] at Hst
      have HM2 := Lib.hid hM2
      have hone : Hid (∀ u ∈ (wn l j).cs, u.oneCell' = true) := cs_one _
      have hsrc := Lib.hid (fun W : World => cs_src (w := W) (wn l j))
      have hf : Hid (flatW M ++ (wn l j).cs = flatW (M ++ [wn l j])) := by unfold Hid; rw [flatW_append, flatW_one]
      clear hM hM2
      by_cases hb : (wn l j).p.b = i
      · have Hst2 : Hid (M2 = M ++ [wn l j]) := by unfold Hid; rw [Hst.out, if_pos hb]
        obtain ⟨x, hx⟩ : ∃ x, x = wn l j := ⟨_, rfl⟩
        rw [← hx] at c0 c1 c2 c3 c4 c5 hone hsrc hf Hst2 Hah hb
        clear hx Hst
        obtain ⟨num, ⟨b, o, s⟩, ah, a4, cc, fl⟩ := x
        have HX : Hid ((Wr.mk num ⟨b, o, s⟩ ah a4 cc fl).cs = [.int .i64 num, .int .i64 b, .int .i64 o, .string s, .slice a4 ah.length cc, .bool fl]) := rfl
        simp [Wr.cs] at c0 c1 c2 c3 c4 c5
        dsimp only at hb
        subst hb
        have HBa : Hid (Below wr.heap.size wr (wr.alloc (.cells #[.int .i64 num, .int .i64 b, .int .i64 o, .string s, .slice a4 ah.length cc, .bool fl] 90))) := (Below.refl _ _).alloc (Nat.le_refl _) _
        have Hrow : Hid (∀ W, Below wr.heap.size wr W → (W.alloc (.cells #[.int .i64 num, .int .i64 b, .int .i64 o, .string s, .slice a4 ah.length cc, .bool fl] 90)).ownsRow w.heap.size 90 6 (.slice A' M.length c') M.length (flatW M)) := fun W hW => ((hrow.out.fresh hW).row).alloc _
        have Hsr : Hid (∀ W : World, ∀ ad, some (⟨W.heap.size, 0, none⟩ : Addr) = some ad → ∀ j u, ([.int .i64 num, .int .i64 b, .int .i64 o, .string s, .slice a4 ah.length cc, .bool fl] : List Value)[j]? = some u → (W.alloc (.cells #[.int .i64 num, .int .i64 b, .int .i64 o, .string s, .slice a4 ah.length cc, .bool fl] 90)).cell? (ad.add j) = some u) := hsrc.out
        have Hon : Hid (∀ u ∈ ([.int .i64 num, .int .i64 b, .int .i64 o, .string s, .slice a4 ah.length cc, .bool fl] : List Value), u.oneCell' = true) := hone.out
        have Hff : Hid (flatW M ++ ([.int .i64 num, .int .i64 b, .int .i64 o, .string s, .slice a4 ah.length cc, .bool fl] : List Value) = flatW M2) := by unfold Hid; rw [Hst2.out, ← hf.out]; rfl
        have Hml : Hid (M2.length = M.length + 1) := by unfold Hid; rw [Hst2.out]; simp
        have Hah2 : Hid (∀ W, Kept wr W (fun b => own A' = some b) → ∀ y ∈ M2, AhAt W y) := fun W hW y hy => by
          have hni : NI wr (fun b => own A' = some b) := by have := NI.row hrow.out.row (by decide); simpa only [own_eq] using this
          rw [Hst2.out] at hy
          rcases List.mem_append.1 hy with h | h
          · exact (hrow.out.ah y h).keep hW hni
          · rw [List.mem_singleton] at h; subst h; exact Hah.out.keep hW hni
        have Hold := Lib.hid hrow.out.row.lt
        clear hone hsrc hf Hst2 Hah HX
        go_wp2_with (at_builtin; refine wpList_append_src rfl (.tmp 22) (.tmp 24) 70 rfl w.heap.size 90 i0 _ 6 72 Try.underlying70 hi0 hz0 hz1 hz2 rfl (by decide) (.slice A' M.length c') M.length (flatW M) rfl (Hrow.out _ HBa.out) (some ⟨wr.heap.size + 1, 0, none⟩) 1 1 [.int .i64 num, .int .i64 b, .int .i64 o, .string s, .slice a4 ah.length cc, .bool fl] rfl rfl (by have := Hsr.out (wr.alloc (.cells #[.int .i64 num, .int .i64 b, .int .i64 o, .string s, .slice a4 ah.length cc, .bool fl] 90)); simpa using this) (fun e => by cases e) Hon.out (by unfold maxLen; omega) (by omega) (by simp; omega) (M.length + 1) rfl ?_; intro A2 c2 w2 ho2 hg2 hor2; have HO2 := Lib.hid ho2; have HG2 := Lib.hid hg2; clear ho2 hg2 hor2)
        go_roundw
        case rel =>
          have hB2 : Below w.heap.size w w2 := ((HB.out.trans (HBa.out.mono hsz)).alloc (by simp; omega) _).grown HG2.out (by simp; omega) (fun j e => (Hold.out j e).1)
          have hk : Kept wr w2 (fun b => own A' = some b) := (Kept.fresh (S := fun b => own A' = some b) (HBa.out.alloc (by simp) _)).trans (Kept.grown (S := fun b => own A' = some b) HG2.out (fun k e => .inl (by rw [← own_eq]; exact e))) (fun b q => .inl q)
          refine ⟨j + 1, A2, c2, by omega, by go_num, by rw [← HM2.out, Hml.out], ?_, hB2⟩
          rw [← HM2.out]
          refine ⟨?_, Hah2.out w2 hk⟩
          have := HO2.out
          rw [Hff.out, ← Hml.out] at this
          exact this
        case measure => simp [intOf]; omega
      · have Hst2 : Hid (M2 = M) := by unfold Hid; rw [Hst.out, if_neg hb]
        obtain ⟨x, hx⟩ : ∃ x, x = wn l j := ⟨_, rfl⟩
        rw [← hx] at c0 c1 c2 c3 c4 c5 hb
        clear hx Hst hone hsrc hf Hah
        obtain ⟨num, ⟨b, o, s⟩, ah, a4, cc, fl⟩ := x
        simp [Wr.cs] at c0 c1 c2 c3 c4 c5
        dsimp only at hb
        have HBa : Hid (Below wr.heap.size wr (wr.alloc (.cells #[.int .i64 num, .int .i64 b, .int .i64 o, .string s, .slice a4 ah.length cc, .bool fl] 90))) := (Below.refl _ _).alloc (Nat.le_refl _) _
        go_wp2
        go_roundw
        case rel =>
          refine ⟨j + 1, A', c', by omega, by go_num, by rw [← HM2.out, Hst2.out], ?_, HB.out.trans (HBa.out.mono hsz)⟩
          rw [← HM2.out, Hst2.out]
          exact hrow.out.fresh HBa.out
        case measure => simp [intOf]; omega
    · obtain rfl : j = l.length := by omega
      have hlti : ¬ (l.length : Int) < (l.length : Int) := by omega
      rw [List.take_length] at hrow ⊢
      clear hB
      go_wp2
      go_ret
      exact ⟨A', c', rfl, hrow.out, HB.out⟩
end Go.Proofs.Ytegacggkdjgdiaa
