/- What an engine tells: New, Waiting, Ready, Block, Crash. -/
import Derived.Test.YtegacggkdjgdiaaEG
set_option linter.unusedVariables false
set_option linter.unusedSimpArgs false
namespace Go.Proofs.Ytegacggkdjgdiaa
open Go.RowKit

def intsI (l : List Int) : List Value := l.map (Value.int .i64)
/-- numbers that a call answers, a row of its own -/
def Says (w : World) (xs : List Int) (e : Ending) (w' : World) : Prop := ∃ A c, e = .returned (.slice A xs.length c) ∧ w'.ownsRow w.heap.size 3 1 (.slice A xs.length c) xs.length (intsI xs) ∧ Below w.heap.size w w'
theorem numsL_take {l : List Wr} {k : Nat} (h : k < l.length) : intsI (numsL (l.take k)) ++ [.int .i64 (wn l k).num] = intsI (numsL (l.take (k + 1))) := by
  rw [take_wn h]; simp [intsI, numsL]

set_option maxRecDepth 100000 in
set_option maxHeartbeats 1000000 in
theorem numbers_any (B : Nat) (A : Option Addr) (c : Nat) (l : List Wr) (w : World) (hR : RowW w B A c l) (hl : l.length ≤ 1000) :
    Calls Try.prog 48 #[.slice A l.length c] w (Says w (numsL l)) := by
  have HR := Lib.hid hR
  obtain ⟨i0, hi0, hz0, hz1, hz2⟩ := info_parts infoI
  clear hR
  go_enter Try.func48, Try.ntmps48
  go_wp2
  go_loopw [3, 8] (fun s q wr => ∃ (j : Nat) (A' : Option Addr) (c' : Nat), j ≤ l.length ∧ q = .int .i64 j ∧ s = .slice A' j c' ∧ Hid (wr.ownsRow w.heap.size 3 1 (.slice A' j c') j (intsI (numsL (l.take j)))) ∧ Below w.heap.size w wr) (fun _ q _ => l.length - (intOf q).toNat)
  case atStart => exact ⟨0, none, 0, Nat.zero_le _, rfl, rfl, World.ownsRow_nil _ _ _ _, Below.refl _ _⟩
  case round =>
    obtain ⟨j, A', c', hj, rfl, rfl, hrow, hB⟩ := hrel
    rename World => wr
    have HB := Lib.hid hB
    have hsz := hB.size
    by_cases hlt : j < l.length
    · have hlti : (j : Int) < (l.length : Int) := by omega
      have hj0 : (0 : Int) ≤ (j : Int) := by omega
      obtain ⟨ab, hA, h3, h4, hb, hcs, _⟩ := (HR.out.fresh hB).at_ hlt
      have Hst := Lib.hid (numsL_take hlt)
      subst hA
      unfold maxLen at h4
      have c0 := hcs 0 (by omega)
      have c1 := hcs 1 (by omega)
      have c2 := hcs 2 (by omega)
      have c3 := hcs 3 (by omega)
      have c4 := hcs 4 (by omega)
      have c5 := hcs 5 (by omega)
      clear hcs hB
      obtain ⟨x, hx⟩ : ∃ x, x = wn l j := ⟨_, rfl⟩
      rw [← hx] at c0 c1 c2 c3 c4 c5 Hst
      clear hx
      obtain ⟨num, ⟨b, o, s⟩, ah, a4, cc4, fl⟩ := x
      simp [Wr.cs] at c0 c1 c2 c3 c4 c5
      generalize ah.length = an at *
      dsimp only at Hst
      have HBa : Hid (Below wr.heap.size wr (wr.alloc (.cells #[.int .i64 num, .int .i64 b, .int .i64 o, .string s, .slice a4 an cc4, .bool fl] 90))) := (Below.refl _ _).alloc (Nat.le_refl _) _
      have Hrow : Hid (∀ W, Below wr.heap.size wr W → (W.alloc (.cells #[.int .i64 num] 3)).ownsRow w.heap.size 3 1 (.slice A' j c') j (intsI (numsL (l.take j)))) := fun W hW => ((Kept.fresh (S := fun _ => False) hW).row hrow.out (fun _ _ q => q)).alloc _
      have Hsr : Hid (∀ W : World, ∀ ad, some (⟨W.heap.size, 0, none⟩ : Addr) = some ad → ∀ j u, ([.int .i64 num] : List Value)[j]? = some u → (W.alloc (.cells #[.int .i64 num] 3)).cell? (ad.add j) = some u) := fun W ad e j u hu => by
        cases e
        exact World.news_of_block (heap_alloc_new W _) j u hu
      have Hold := Lib.hid hrow.out.lt
      go_wp2_with (at_builtin; refine wpList_append_src rfl (.tmp 12) (.tmp 15) 24 rfl w.heap.size 3 i0 _ 1 8 Try.underlying24 hi0 hz0 hz1 hz2 rfl (by decide) (.slice A' j c') j (intsI (numsL (l.take j))) rfl (Hrow.out _ HBa.out) (some ⟨wr.heap.size + 1, 0, none⟩) 1 1 [.int .i64 num] rfl rfl (by have := Hsr.out (wr.alloc (.cells #[.int .i64 num, .int .i64 b, .int .i64 o, .string s, .slice a4 an cc4, .bool fl] 90)); simpa using this) (fun e => by cases e) (by intro u hu; rw [List.mem_singleton] at hu; rw [hu]; rfl) (by unfold maxLen; omega) (by omega) (by simp; omega) (j + 1) rfl ?_; intro A2 c2 w3 ho2 hg2 hor2; have HO2 := Lib.hid ho2; have HG2 := Lib.hid hg2; clear ho2 hg2 hor2)
      go_roundw
      case rel =>
        refine ⟨j + 1, A2, c2, by omega, by go_num, rfl, ?_, ((HB.out.trans (HBa.out.mono hsz)).alloc (by simp; omega) _).grown HG2.out (by simp; omega) (fun j e => (Hold.out j e).1)⟩
        have := HO2.out
        rw [Hst.out] at this
        exact this
      case measure => simp [intOf]; omega
    · obtain rfl : j = l.length := by omega
      have hlti : ¬ (l.length : Int) < (l.length : Int) := by omega
      rw [List.take_length] at hrow
      have Hln : Hid ((numsL l).length = l.length) := by simp [numsL, Hid]
      clear hB
      go_wp2
      go_ret
      unfold Says
      rw [Hln.out]
      exact ⟨A', c', rfl, hrow.out, HB.out⟩
section
variable {w : World} {ge n cc : Nat} {S : Nat → Bk} {k : Int} {l : List Wr} {F : Nat → Prop}
theorem ewaiting (h : Eng w ge n S cc k l F) : Calls Try.prog 17 #[.pointer (some ⟨ge, 0, none⟩)] w (Says w (numsL l)) := by
  obtain ⟨gd, A, c, Fd, h, rfl⟩ := h
  have e2 := h.head.c2
  have HN := Lib.hid (numbers_any 0 A c l w h.row (by have := h.few; omega))
  generalize l.length = m at *
  clear h
  go_enter Try.func17, Try.ntmps17
  go_wp2_with (refine HN.out.mono ?_; rintro e w1 hs; have HS := Lib.hid hs; obtain ⟨A1, c1, rfl, _, _⟩ := hs)
  go_ret
  exact HS.out
end
set_option maxRecDepth 100000 in
theorem eready {w : World} {ge n cc : Nat} {S : Nat → Bk} {k : Int} {l : List Wr} {F : Nat → Prop} (h : Eng w ge n S cc k l F) (i : Int) : Calls Try.prog 28 #[.pointer (some ⟨ge, 0, none⟩), .int .i64 i] w (Says w (numsL (readyL l i))) := by
  obtain ⟨gd, A, c, Fd, h, rfl⟩ := h
  have hlen : (readyL l i).length ≤ 1000 := by
    have h1 := (readyL_sub l i).length_le
    have h2 := (onL_sub l i).length_le
    have := h.few; omega
  have HR := Lib.hid (ready_any 0 ge gd k A c l i w h.head h.row h.asc (by have := h.few; omega))
  have hge := h.head.lt
  clear h
  go_enter Try.func28, Try.ntmps28
  go_wp2_with (first
    | (go_at_call 38; refine HR.out.mono ?_; rintro e w1 ⟨A1, c1, rfl, hr1, hb1⟩; have HN := Lib.hid (numbers_any _ A1 c1 _ w1 hr1 hlen); have HB1 := Lib.hid hb1; clear hr1 hb1)
    | (go_at_call 48; refine HN.out.mono ?_; rintro e w2 ⟨A2, c2, rfl, h1, h2⟩; have H1 := Lib.hid h1; have H2 := Lib.hid h2; clear h1 h2))
  go_ret
  have hr := H1.out
  refine ⟨A2, c2, rfl, ⟨hr.1, ?_⟩, HB1.out.trans (H2.out.mono HB1.out.size)⟩
  rcases hr.2 with q | ⟨g, cap, cur, q, hg, rest⟩
  · exact .inl q
  · exact .inr ⟨g, cap, cur, q, by have := HB1.out.size; omega, rest⟩
set_option maxRecDepth 100000 in
theorem eblock {w : World} {ge n cc : Nat} {S : Nat → Bk} {k : Int} {l : List Wr} {F : Nat → Prop} (h : Eng w ge n S cc k l F) {i : Nat} (hi : i < n) :
    Calls Try.prog 22 #[.pointer (some ⟨ge, 0, none⟩), .int .i64 (i : Int)] w fun e w' => ∃ A c, e = .returned (.tuple #[.slice A 32 c, .int .i64 0]) ∧ 32 ≤ c ∧ c ≤ maxLen ∧ Bts w' w'.heap.size A (putL (S i).s (onL l i)) ∧ (putL (S i).s (onL l i)).length = 32 ∧ Below w.heap.size w w' := by
  have HAsk := Lib.hid (ask_engine h (i : Int))
  rw [if_pos (by omega)] at HAsk
  obtain ⟨gd, A, c, Fd, h, rfl⟩ := h
  have hge := h.head.lt
  have hlen : (onL l (i : Int)).length ≤ 1000 := by
    have h2 := (onL_sub l (i : Int)).length_le
    have := h.few; omega
  have HO := Lib.hid (fun W hW => on_any 0 ge gd k A c l (i : Int) W (h.fresh hW).head (h.fresh hW).row (by have := h.few; omega))
  have HBh := Lib.hid (fun W (hW : Below w.heap.size w W) B A' c' (hr : RowW W B A' c' (onL l (i : Int))) => behind_any B ge gd n cc i k _ S Fd A' c' _ W (h.fresh hW).head (h.fresh hW).disk hi hr (h.right.sub (onL_sub _ _)) hlen)
  clear h
  go_enter Try.func22, Try.ntmps22
  go_wp2_with (go_at_call 37; refine HAsk.out.mono ?_; rintro e w1 ⟨rfl, hb1⟩; have HB1 := Lib.hid hb1; have hg1 : ge < w1.heap.size := (Nat.lt_of_lt_of_le hge hb1.size); clear hb1)
  go_region_held3 (fun w' => True) (exact trivial)
    (first
      | (go_at_call 55; (with_reducible refine (HO.out _ HB1.out.drew).mono ?_); rintro e w2 ⟨A2, c2, rfl, hr2, hb2⟩; have HR2 := Lib.hid hr2; have HB2 := Lib.hid (HB1.out.drew.trans (hb2.mono HB1.out.size)); clear hr2 hb2)
      | (go_at_call 41; (with_reducible refine (HBh.out _ HB2.out _ _ _ HR2.out).mono ?_); rintro e w3 ⟨A3, c3, rfl, h1, h2, h3, h4, h5⟩; have H1 := Lib.hid h1; have H2 := Lib.hid h2; have H3 := Lib.hid h3; have H4 := Lib.hid h4; have H5 := Lib.hid h5; clear h1 h2 h3 h4 h5))
  all_goals
    go_wp2
    go_ret2
    exact ⟨A3, c3, rfl, H1.out, H2.out, H3.out, H4.out, HB2.out.trans (H5.out.mono HB2.out.size)⟩
theorem eblock_no {w : World} {ge n cc : Nat} {S : Nat → Bk} {k : Int} {l : List Wr} {F : Nat → Prop} (h : Eng w ge n S cc k l F) (i : Int) (hi : ¬ (0 ≤ i ∧ i < n)) :
    Calls Try.prog 22 #[.pointer (some ⟨ge, 0, none⟩), .int .i64 i] w fun e w' => e = .returned (.tuple #[.slice none 0 0, .int .i64 2]) ∧ Below w.heap.size w w' := by
  have HAsk := Lib.hid (ask_engine h i)
  rw [if_neg hi] at HAsk
  clear h hi
  go_enter Try.func22, Try.ntmps22
  go_wp2_with (go_at_call 37; refine HAsk.out.mono ?_; rintro e w1 ⟨rfl, hb1⟩; have HB1 := Lib.hid hb1; clear hb1)
  go_ret2
  exact ⟨rfl, HB1.out⟩
set_option maxRecDepth 100000 in
theorem enew {w : World} {gd n cc : Nat} {S : Nat → Bk} {Fd : Nat → Prop} (h : Code w gd n S cc Fd) (hc : cc < 100000) :
    Calls Try.prog 8 #[.pointer (some ⟨gd, 0, none⟩)] w fun e w' => ∃ ge F, e = .returned (.pointer (some ⟨ge, 0, none⟩)) ∧ Eng w' ge n (fun j => (S j).flushed) cc 0 [] F ∧ (∀ b, F b → w.heap.size ≤ b) ∧ Below w.heap.size w w' := by
  have HF := Lib.hid (cfork h hc)
  clear h
  go_enter Try.func8, Try.ntmps8
  go_wp2_with (first
    | (go_at_call 31; refine HF.out.mono ?_; rintro e w1 ⟨g1, F1, rfl, hd1, hf1, hb1⟩; have HD1 := Lib.hid hd1; have HF1 := Lib.hid hf1; have HB1 := Lib.hid hb1; clear hd1 hf1 hb1)
    | (go_at_call 32; refine (cflush HD1.out hc).mono ?_; rintro e w2 ⟨rfl, hw2⟩; have HW2 := Lib.hid hw2; clear hw2))
  go_ret
  obtain ⟨F2, hd2, hk2, hf2⟩ := HW2.out
  have hB2 : Below w.heap.size w w2 := HB1.out.trans (hk2.below HF1.out HB1.out.size)
  have hd3 := hd2.fresh (w' := w2.alloc (.cells #[.pointer (some ⟨g1, 0, none⟩), .int .i64 0, .slice none 0 0] 74)) ((Below.refl _ _).alloc (Nat.le_refl _) _)
  refine ⟨_, _, rfl, ⟨g1, none, 0, F2, ⟨⟨heap_alloc_new _ _⟩, hd3, RowW.nil _ _, List.Pairwise.nil, (fun x hx => by cases hx), (fun x hx => by cases hx), (fun x hx => by cases hx), Nat.zero_le _⟩, rfl⟩, ?_, hB2.alloc hB2.size _⟩
  have hs := HB1.out.size
  rintro b (q | q | q)
  · have := hB2.size; omega
  · simp [own] at q
  · rcases hf2 b q with q | q
    · exact HF1.out b q
    · omega
theorem enew_none (w : World) : Calls Try.prog 8 #[.pointer none] w fun e w' => e = .returned (.pointer none) ∧ w = w' := by
  go_enter Try.func8, Try.ntmps8
  go_wp2
  go_ret
  exact ⟨rfl, rfl⟩
/-- the disk that is left when the power goes -/
theorem ecrash {w : World} {ge n cc : Nat} {S : Nat → Bk} {k : Int} {l : List Wr} {F : Nat → Prop} (h : Eng w ge n S cc k l F) (hc : cc < 100000) (pick : List Int) (hpw : ∀ x ∈ pick, -9223372036854775808 ≤ x ∧ x ≤ 9223372036854775807) (P : Option Addr) (pc : Nat) (hP : PickAt w (fun b => w.heap.size ≤ b) P pick) :
    Calls Try.prog 16 #[.pointer (some ⟨ge, 0, none⟩), .slice P pick.length pc] w fun e w' => ∃ d F', e = .returned (.pointer (some ⟨d, 0, none⟩)) ∧ Code w' d n (crashed n S pick) cc F' ∧ (∀ b, F' b → w.heap.size ≤ b) ∧ Below w.heap.size w w' := by
  obtain ⟨gd, A, c, Fd, h, rfl⟩ := h
  have e0 := h.head.c0
  have HF := Lib.hid (cfork h.disk hc)
  have HPw := Lib.hid hpw
  have HP : Hid (∀ W G, Below w.heap.size w W → (∀ b, G b → w.heap.size ≤ b) → PickAt W G P pick) := fun W G hW hG => by
    rcases hP with q | ⟨b, o, h1, h2, h3, h4⟩
    · exact .inl q
    · exact .inr ⟨b, o, h1, Nat.lt_of_lt_of_le h2 hW.size, fun q => h3 (hG b q), fun j u hj => (hW.cell (p := ⟨b, o + j, none⟩) h2).trans (h4 j u hj)⟩
  clear h hpw hP
  go_enter Try.func16, Try.ntmps16
  go_wp2_with (first
    | (go_at_call 31; refine HF.out.mono ?_; rintro e w1 ⟨g1, F1, rfl, hd1, hf1, hb1⟩; have HD1 := Lib.hid hd1; have HF1 := Lib.hid hf1; have HB1 := Lib.hid hb1; clear hd1 hf1 hb1)
    | (go_at_call 47; refine (ccrash HD1.out hc pick HPw.out P pc (HP.out _ _ HB1.out HF1.out)).mono ?_; rintro e w2 ⟨rfl, hw2⟩; have HW2 := Lib.hid hw2; clear hw2))
  go_ret
  obtain ⟨F2, hd2, hk2, hf2⟩ := HW2.out
  refine ⟨_, F2, rfl, hd2, fun b q => ?_, HB1.out.trans (hk2.below HF1.out HB1.out.size)⟩
  rcases hf2 b q with q | q
  · exact HF1.out b q
  · have := HB1.out.size; omega
end Go.Proofs.Ytegacggkdjgdiaa
