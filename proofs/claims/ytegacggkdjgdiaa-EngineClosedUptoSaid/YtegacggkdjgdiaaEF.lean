/- A block's bytes behind some of those that wait: behind. -/
import Derived.Test.YtegacggkdjgdiaaEE
import Derived.Test.YtegacggkdjgdiaaH3
set_option linter.unusedVariables false
set_option linter.unusedSimpArgs false
namespace Go.Proofs.Ytegacggkdjgdiaa
open Go.RowKit

theorem Code.okS {w : World} {g n c : Nat} {S : Nat → Bk} {F : Nat → Prop} (h : Code w g n S c F) {i : Nat} (hi : i < n) : OkS (S i).s := by
  obtain ⟨L, B, mb, k, D, V, A, C, h, rfl⟩ := h
  rw [← h.sec i hi]
  exact ⟨length_sec h.disk.lenL (by have := h.n96; omega), sec_all h.disk.allL i⟩
theorem Pt.ok_of_right {p : Pt} (h : p.right = true) : p.ok := by
  obtain ⟨h1, h2, h3, h4, h5, h6⟩ := Pt.right_out h
  exact ⟨by omega, by omega, by unfold maxLen; omega⟩
def ptsL (l : List Wr) : List Pt := l.map Wr.p
def RightL (l : List Wr) : Prop := ∀ x ∈ l, x.p.right = true
theorem RightL.sub {l m : List Wr} (h : RightL l) (hs : m.Sublist l) : RightL m := fun x hx => h x (hs.subset hx)
theorem length_ptsL (l : List Wr) : (ptsL l).length = l.length := by simp [ptsL]
theorem ptsL_take {l : List Wr} {k : Nat} (h : k < l.length) : ptsL (l.take (k + 1)) = ptsL (l.take k) ++ [(wn l k).p] := by rw [take_wn h]; simp [ptsL]
theorem allP_ptsL {l : List Wr} (h : RightL l) (b : List Int) : allP b (ptsL l) = some ((ptsL l).foldl put b) := by
  unfold allP
  rw [if_pos]
  rw [List.all_eq_true]
  intro p hp
  obtain ⟨x, hx, rfl⟩ := List.mem_map.1 hp
  exact h x hx
/-- a block's bytes, behind patches -/
def putL (b : List Int) (l : List Wr) : List Int := (ptsL l).foldl put b
theorem putL_ok {b : List Int} (hb : OkS b) {l : List Wr} (h : RightL l) : OkS (putL b l) :=
  ⟨length_putAll hb.1 _ (by rw [List.all_eq_true]; intro p hp; obtain ⟨x, hx, rfl⟩ := List.mem_map.1 hp; exact h x hx), putAll_all hb.2 _⟩
theorem infoS : (Try.prog.info? 65).map (fun i => (i.zero, i.size)) = some (some (.agg (bytesV noSec).toArray), 32) := by kernel_rfl
theorem infoP : (Try.prog.info? 32).map (fun i => (i.zero, i.size, i.bytes)) = some (some (.agg #[.int .i64 0, .int .i64 0, .string ⟨#[]⟩]), 3, 32) := by kernel_rfl
/-- bytes that a call answers, a row of its own -/
def Gives (w : World) (m : List Int) (e : Ending) (w' : World) : Prop := ∃ A c, e = .returned (.slice A 32 c) ∧ 32 ≤ c ∧ c ≤ maxLen ∧ Bts w' w'.heap.size A m ∧ m.length = 32 ∧ Below w.heap.size w w'

set_option maxRecDepth 100000 in
set_option maxHeartbeats 4000000 in
theorem behind_any (B ge gd n cc i : Nat) (k : Int) (v : Value) (S : Nat → Bk) (Fd : Nat → Prop) (A : Option Addr) (c : Nat) (l : List Wr) (w : World) (hH : HeadAt w ge gd k v) (hD : Code w gd n S cc Fd) (hi : i < n) (hR : RowW w B A c l) (hok : RightL l) (hl : l.length ≤ 1000) :
    Calls Try.prog 41 #[.pointer (some ⟨ge, 0, none⟩), .int .i64 (i : Int), .slice A l.length c] w (Gives w (putL (S i).s l)) := by
  have hS := hD.okS hi
  have HL := Lib.hid (clast hD hi)
  have e0 := hH.c0
  have hge := hH.lt
  have HR := Lib.hid hR
  have Hok := Lib.hid hok
  have hsl := hS.1
  have hsz2 : Hid ((Try.prog.info? 65).map (·.size) = some (bytesV (S i).s).toArray.size) := by unfold Hid; rw [List.size_toArray, length_bytesV, hsl]; exact size36
  have hone : Hid ((bytesV (S i).s).toArray.all (·.oneCell') = true) := all_oneCell_toArray (bytesV_one _)
  have hold : Hid (32 = (bytesV (S i).s).toArray.size) := by unfold Hid; rw [List.size_toArray, length_bytesV, hsl]
  obtain ⟨i0, hi0, hz0, hz1, hz2⟩ := info_parts infoP
  obtain ⟨sx, hsx⟩ : ∃ sx, sx = (S i).s := ⟨_, rfl⟩
  rw [← hsx] at HL hsz2 hone hold hsl hS ⊢
  have HS := Lib.hid hS
  unfold secV at HL
  obtain ⟨R0, hR0⟩ : ∃ R0, R0 = (bytesV sx).toArray := ⟨_, rfl⟩
  rw [← hR0] at HL hsz2 hone hold
  have HR0 := Lib.hid hR0
  clear hH hD hR hok hS hsx hR0 hsl
  go_enter Try.func41, Try.ntmps41
  go_wp2_with (first
    | (go_at_call 30; refine HL.out.mono ?_; rintro e w1 ⟨rfl, hb1⟩; have HB1 := Lib.hid hb1; clear hb1)
    | (refine wpList_store_row rfl 65 (.tmp 7) (.tmp 21) rfl w1.heap.size R0 rfl rfl 65 _ (heap_alloc_new w1 _) hsz2.out hold.out hone.out ?_; generalize hW : World.setRow (w1.alloc (Obj.cells _ 65)) _ R0 = w2; have HB2 : Hid (Below w.heap.size w w2) := (by rw [← hW]; exact HB1.out.trans ((below_setRow (below_alloc1 w1 _) (Nat.le_refl _) _).mono HB1.out.size)); have HS2 : Hid (w2.heap[w1.heap.size]? = some (.cells R0 65 (0, 0))) := (by rw [← hW]; exact setRow_heap _ _ _ _ _ _ (heap_alloc_new w1 _)); clear hW))
  have hlt1 : Hid (w1.heap.size < w2.heap.size) := (Array.getElem?_eq_some_iff.1 HS2.out).1
  go_loopw [9, 25] (fun s q wr => ∃ (j : Nat) (A' : Option Addr) (c' : Nat), j ≤ l.length ∧ q = .int .i64 j ∧ s = .slice A' j c' ∧ Hid (OwnP wr w2.heap.size (.slice A' j c') (ptsL (l.take j))) ∧ Below w2.heap.size w2 wr) (fun _ q _ => l.length - (intOf q).toNat)
  case atStart => exact ⟨0, none, 0, Nat.zero_le _, rfl, rfl, World.ownsRow_nil _ _ _ _, Below.refl _ _⟩
  case round =>
    obtain ⟨j, A', c', hj, rfl, rfl, hrow, hB⟩ := hrel
    rename World => wr
    have HB := Lib.hid hB
    have hsz := hB.size
    by_cases hlt : j < l.length
    · have hlti : (j : Int) < (l.length : Int) := by omega
      have hj0 : (0 : Int) ≤ (j : Int) := by omega
      obtain ⟨ab, hA, h3, h4, hb, hcs, _⟩ := ((HR.out.fresh HB2.out).fresh hB).at_ hlt
      have Hst := Lib.hid (ptsL_take hlt)
      subst hA
      unfold maxLen at h4
      have c0 := hcs 0 (by omega)
      have c1 := hcs 1 (by omega)
      have c2 := hcs 2 (by omega)
      have c3 := hcs 3 (by omega)
      have c4 := hcs 4 (by omega)
      have c5 := hcs 5 (by omega)
      clear hcs hB
      obtain ⟨M, hM⟩ : ∃ M, M = ptsL (l.take j) := ⟨_, rfl⟩
      have hMl : M.length = j := by rw [hM, length_ptsL, List.length_take]; omega
      have HMl := Lib.hid hMl
      have Hpr : Hid (wr.ownsRow w2.heap.size 32 3 (.slice A' j c') j (ptsV M)) := by
        have := hrow.out
        unfold OwnP at this
        rw [← hM, hMl] at this
        exact this
      rw [← hM] at Hst
      clear hM hMl hrow
      obtain ⟨x, hx⟩ : ∃ x, x = wn l j := ⟨_, rfl⟩
      rw [← hx] at c0 c1 c2 c3 c4 c5 Hst
      clear hx
      obtain ⟨num, ⟨b, o, s⟩, ah, a4, cc4, fl⟩ := x
      simp [Wr.cs] at c0 c1 c2 c3 c4 c5
      generalize ah.length = an at *
      have HBa : Hid (Below wr.heap.size wr (wr.alloc (.cells #[.int .i64 num, .int .i64 b, .int .i64 o, .string s, .slice a4 an cc4, .bool fl] 90))) := (Below.refl _ _).alloc (Nat.le_refl _) _
      have Hrow : Hid (∀ W, Below wr.heap.size wr W → (W.alloc (.cells #[.int .i64 b, .int .i64 o, .string s] 32)).ownsRow w2.heap.size 32 3 (.slice A' j c') j (ptsV M)) := fun W hW => ((Kept.fresh (S := fun _ => False) hW).row Hpr.out (fun _ _ q => q)).alloc _
      have Hsr : Hid (∀ W : World, ∀ ad, some (⟨W.heap.size, 0, none⟩ : Addr) = some ad → ∀ j u, ([.int .i64 b, .int .i64 o, .string s] : List Value)[j]? = some u → (W.alloc (.cells #[.int .i64 b, .int .i64 o, .string s] 32)).cell? (ad.add j) = some u) := fun W ad e j u hu => by
        cases e
        exact World.news_of_block (heap_alloc_new W _) j u hu
      have Hon : Hid (∀ u ∈ ([.int .i64 b, .int .i64 o, .string s] : List Value), u.oneCell' = true) := by
        intro u hu
        simp at hu
        rcases hu with rfl | rfl | rfl <;> rfl
      have Hff : Hid (ptsV M ++ ([.int .i64 b, .int .i64 o, .string s] : List Value) = ptsV (ptsL (l.take (j + 1)))) := by unfold Hid; rw [Hst.out, ptsV_snoc]; rfl
      have Hml : Hid ((ptsL (l.take (j + 1))).length = j + 1) := by unfold Hid; rw [Hst.out]; simp [HMl.out]
      have Hold := Lib.hid Hpr.out.lt
      clear Hst
      go_wp2_with (at_builtin; refine wpList_append_src rfl (.tmp 29) (.tmp 32) 29 rfl w2.heap.size 32 i0 _ 3 32 Try.underlying29 hi0 hz0 hz1 hz2 rfl (by decide) (.slice A' j c') j (ptsV M) rfl (Hrow.out _ HBa.out) (some ⟨wr.heap.size + 1, 0, none⟩) 1 1 [.int .i64 b, .int .i64 o, .string s] rfl rfl (by have := Hsr.out (wr.alloc (.cells #[.int .i64 num, .int .i64 b, .int .i64 o, .string s, .slice a4 an cc4, .bool fl] 90)); simpa using this) (fun e => by cases e) Hon.out (by unfold maxLen; omega) (by omega) (by simp; omega) (j + 1) rfl ?_; intro A2 c2 w3 ho2 hg2 hor2; have HO2 := Lib.hid ho2; have HG2 := Lib.hid hg2; clear ho2 hg2 hor2)
      go_roundw
      case rel =>
        refine ⟨j + 1, A2, c2, by omega, by go_num, rfl, ?_, ((HB.out.trans (HBa.out.mono hsz)).alloc (by simp; omega) _).grown HG2.out (by simp; omega) (fun j e => (Hold.out j e).1)⟩
        have := HO2.out
        rw [Hff.out] at this
        unfold Hid OwnP
        rw [Hml.out]
        exact this
      case measure => simp [intOf]; omega
    · obtain rfl : j = l.length := by omega
      have hlti : ¬ (l.length : Int) < (l.length : Int) := by omega
      rw [List.take_length] at hrow
      have hP : Pats wr wr.heap.size A' (ptsL l) := by
        obtain ⟨A2, c2, e, _, _, h⟩ := OwnP.form (B := w2.heap.size) (v := .slice A' l.length c') (l := ptsL l) (w := wr) hrow.out
        obtain ⟨rfl, _, _⟩ := Value.slice.inj e
        exact h
      have hsec : wr.heap[w1.heap.size]? = some (.cells R0 65 (0, 0)) := by rw [hB.block _ hlt1.out]; exact HS2.out
      have hbt : Bts wr wr.heap.size (some ⟨w1.heap.size, 0, none⟩) sx := row_bts (t := 65) (by unfold BlkIs; rw [hsec, HR0.out]) HS.out.2 (Array.getElem?_eq_some_iff.1 hsec).1
      have HA := all_any (some ⟨w1.heap.size, 0, none⟩) A' 32 c' sx (ptsL l) wr hbt HS.out.1 hP (by rw [length_ptsL]; exact hl) (fun k hk => by
        rw [pn_lt hk]
        refine Pt.ok_of_right ?_
        obtain ⟨x, hx, e⟩ := List.mem_map.1 (List.getElem_mem hk)
        rw [← e]; exact Hok.out x hx)
      rw [length_ptsL, allP_ptsL Hok.out] at HA
      have HA2 := Lib.hid HA
      have Hpo := Lib.hid (putL_ok HS.out Hok.out)
      clear HA hbt hP hsec hrow hB
      go_wp2_with (go_at_call 67; refine HA2.out.mono ?_; rintro e w4 ⟨hb4, A4, c4, rfl, h1, h2, h3, h4⟩; have HB4 := Lib.hid hb4; have H1 := Lib.hid h1; have H2 := Lib.hid h2; have H3 := Lib.hid h3; have H4 := Lib.hid h4; clear hb4 h1 h2 h3 h4)
      go_ret
      exact ⟨A4, c4, rfl, H1.out, H2.out, H3.out, H4.out, (HB2.out.trans (HB.out.mono HB2.out.size)).trans (HB4.out.mono (HB2.out.trans (HB.out.mono HB2.out.size)).size)⟩
end Go.Proofs.Ytegacggkdjgdiaa
