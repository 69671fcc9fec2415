/- Add of an engine. -/
import Derived.Test.YtegacggkdjgdiaaEP
set_option linter.unusedVariables false
set_option linter.unusedSimpArgs false
namespace Go.Proofs.Ytegacggkdjgdiaa
open Go.RowKit

theorem ret_two {a b : Int} {v : Value} (h : a = b) : Ending.returned (.tuple #[v, .int .i64 a]) = .returned (.tuple #[v, .int .i64 b]) := by rw [h]
def OneOf (first : Int) (l : List Wr) (k : Int) (x : It) (y : Wr) : Prop := y.num = k ∧ y.p = x.p ∧ y.ah = ahL l (x.d.map (depN first)) x.p ∧ y.wr = false
/-- patches that came, one behind the other -/
inductive Added (first : Int) (l : List Wr) (k : Int) : List It → List Wr → Prop
  | nil : Added first l k [] l
  | snoc {its : List It} {l' : List Wr} {x : It} {y : Wr} (h : Added first l k its l') (hy : OneOf first l' (k + its.length) x y) : Added first l k (its ++ [x]) (l' ++ [y])
theorem Added.length {first k : Int} {l l' : List Wr} {its : List It} (h : Added first l k its l') : l'.length = l.length + its.length := by
  induction h with
  | nil => simp
  | snoc h hy ih => simp [ih]; omega
theorem refuses_ok {n wl : Nat} {k : Int} {its : List It} (h : refusesE n k wl its = 0) :
    (∀ x ∈ its, x.p.right = true ∧ x.p.b < n) ∧ (∀ j, j < its.length → ∀ d ∈ (itN its j).d, d < k ∧ -1 - d < j) ∧ its.length + wl ≤ 200 := by
  unfold refusesE at h
  split at h
  · cases h
  · next h1 =>
    split at h
    · cases h
    · next h2 =>
      split at h
      · cases h
      · next h3 =>
        refine ⟨fun x hx => ?_, fun j hj d hd => ?_, by omega⟩
        · rw [Bool.not_eq_true, List.any_eq_false] at h1
          have := h1 x hx
          simp [badForm] at this
          exact ⟨this.1, by omega⟩
        · rw [Bool.not_eq_true] at h2
          unfold badAll at h2
          rw [List.any_eq_false] at h2
          have := h2 j (List.mem_range.2 hj)
          unfold badDeps at this
          rw [Bool.not_eq_true, List.any_eq_false] at this
          have := this d hd
          simp [badDep] at this
          omega
theorem refuses_err {n wl : Nat} {k : Int} {its : List It} : refusesE n k wl its = 0 ∨ refusesE n k wl its = 3 ∨ refusesE n k wl its = 2 ∨ refusesE n k wl its = 11 := by
  unfold refusesE
  split
  · exact .inr (.inl rfl)
  · split
    · exact .inr (.inr (.inl rfl))
    · split
      · exact .inr (.inr (.inr rfl))
      · exact .inl rfl
section
variable {w : World} {ge n cc : Nat} {S : Nat → Bk} {k : Int} {l : List Wr} {F : Nat → Prop}
set_option maxRecDepth 100000 in
theorem eadd_no (h : Eng w ge n S cc k l F) (AI : Option Addr) (cI : Nat) (its : List It) (hI : ItemsF w F AI its) (hs : SmallI its) (hl : its.length ≤ 1000) (hr : refusesE n k l.length its ≠ 0) :
    Calls Try.prog 10 #[.pointer (some ⟨ge, 0, none⟩), .slice AI its.length cI] w fun e w' => e = .returned (.tuple #[.int .i64 0, .int .i64 (refusesE n k l.length its)]) ∧ Below w.heap.size w w' := by
  obtain ⟨gd, A, c, Fd, h, rfl⟩ := h
  have HR := Lib.hid (refuses_any ge gd n cc c k S Fd l A (footE ge A Fd) AI cI its w h hI hs hl)
  have hge := h.head.lt
  have hcs := @refuses_err n l.length k its
  generalize refusesE n k l.length its = r at *
  generalize its.length = m at *
  clear hI hs h
  rcases hcs with q | q | q | q
  · exact absurd q hr
  all_goals
    subst q
    clear hr
    go_enter Try.func10, Try.ntmps10
    go_wp2_with (refine HR.out.mono ?_; rintro e w1 ⟨rfl, hb1⟩; have HB1 := Lib.hid hb1; clear hb1)
    go_ret2
    exact ⟨rfl, HB1.out⟩
end
theorem itN_take {its : List It} {j : Nat} (h : j < its.length) : its.take (j + 1) = its.take j ++ [itN its j] := by
  rw [List.take_succ_eq_append_getElem h, itN_lt h]
set_option maxRecDepth 100000 in
set_option maxHeartbeats 4000000 in
theorem eadd {w : World} {ge n cc : Nat} {S : Nat → Bk} {k : Int} {l : List Wr} {F : Nat → Prop} (h : Eng w ge n S cc k l F) (AI : Option Addr) (cI : Nat) (its : List It) (hI : ItemsF w F AI its) (hs : SmallI its) (hk0 : 0 ≤ k) (hk1 : k ≤ 900000) (hr : refusesE n k l.length its = 0) :
    Calls Try.prog 10 #[.pointer (some ⟨ge, 0, none⟩), .slice AI its.length cI] w fun e w' => e = .returned (.tuple #[.int .i64 k, .int .i64 0]) ∧ Went w w' F (fun F' => ∃ l', Added k l k its l' ∧ Eng w' ge n S cc (k + its.length) l' F') := by
  obtain ⟨hok1, hok2, hok3⟩ := refuses_ok hr
  obtain ⟨gd, A, c, Fd, h, rfl⟩ := h
  have HR := Lib.hid (refuses_any ge gd n cc c k S Fd l A (footE ge A Fd) AI cI its w h hI hs (by omega))
  rw [hr] at HR
  have HE := Lib.hid h
  have HI := Lib.hid hI
  have HSm := Lib.hid hs
  have Hok1 := Lib.hid hok1
  have Hok2 := Lib.hid hok2
  have hge := h.head.lt
  clear h hI hs hr hok1 hok2
  go_enter Try.func10, Try.ntmps10
  go_wp2_with (refine HR.out.mono ?_; rintro e w1 ⟨rfl, hb1⟩; have HB1 := Lib.hid hb1; have HE1 := Lib.hid (HE.out.fresh hb1); have e1 := HE1.out.head.c1; have hg1 := HE1.out.head.lt; clear hb1)
  go_loopw [27] (fun q wr => ∃ (j : Nat) (l' : List Wr) (F' : Nat → Prop), j ≤ its.length ∧ q = .int .i64 j ∧ Hid (Added k l k (its.take j) l') ∧ Hid (Eng wr ge n S cc (k + j) l' F') ∧ Hid (Kept w wr (footE ge A Fd)) ∧ Hid (∀ b, F' b → footE ge A Fd b ∨ w.heap.size ≤ b)) (fun q _ => its.length - (intOf q).toNat)
  case atStart => exact ⟨0, l, footE ge A Fd, Nat.zero_le _, rfl, by rw [List.take_zero]; exact Added.nil, by rw [show k + ((0 : Nat) : Int) = k by simp]; exact ⟨gd, A, c, Fd, HE1.out, rfl⟩, Kept.fresh HB1.out, fun b q => .inl q⟩
  case round =>
    obtain ⟨j, l', F', hj, rfl, hadd, hE, hK, hF⟩ := hrel
    rename World => wr
    by_cases hlt : j < its.length
    · have hlti : (j : Int) < (its.length : Int) := by omega
      have hj0 : (0 : Int) ≤ (j : Int) := by omega
      obtain ⟨ib, io, Ak, ck, hAI, hib, hnf, hx⟩ := (HI.out.keep hK.out (fun _ q => q) hF.out).at_ hlt
      subst hAI
      obtain ⟨c0, c1, c2, c3, hints⟩ := hx
      have hmem := itN_mem hlt
      have hsm := HSm.out _ hmem
      have ho1 := Hok1.out _ hmem
      have ho2 := Hok2.out j hlt
      have htk := itN_take hlt
      have hll := hadd.out.length
      rw [List.length_take] at hll
      obtain ⟨gd', A', c', Fd', hEA, hFe⟩ := hE.out
      have hgr := hEA.head.lt
      have HAdd : Hid (∀ W, Below wr.heap.size wr W → Calls Try.prog 34 #[.pointer (some ⟨ge, 0, none⟩), ItemV (itN its j) Ak ck, .int .i64 k] W fun e w' => e = .returned (.tuple #[]) ∧ Went W w' F' (fun F'' => ∃ y, OneOf k l' (k + j) (itN its j) y ∧ Eng w' ge n S cc (k + j + 1) (l' ++ [y]) F'')) := fun W hW => by
        refine (add_any ge gd' n cc c' (k + j) k S Fd' l' A' Ak ck (itN its j) W (hEA.fresh hW) (by rw [← hFe]; exact hints.keep (G := fun _ => False) (Kept.fresh hW) (fun _ q => q.elim) (fun _ q => .inl q)) hsm ho1.1 ho1.2 (by omega) (by omega) (by omega) hk0 (by omega) (fun y hy => by have := (ho2 y hy).2; omega)).mono ?_
        rintro e w' ⟨rfl, hw⟩
        refine ⟨rfl, ?_⟩
        rw [hFe]
        exact hw.mono' (fun F'' q => by obtain ⟨y, q1, q2, q3, q4, q5⟩ := q; exact ⟨y, ⟨q1, q2, q3, q4⟩, q5⟩)
      have Htk := Lib.hid htk
      have hFlt : Hid (∀ b, F' b → b < wr.heap.size) := fun b q => hE.out.lt b q
      obtain ⟨x, hx⟩ : ∃ x, x = itN its j := ⟨_, rfl⟩
      rw [← hx] at c0 c1 c2 c3 HAdd Htk
      clear hx hEA hFe hints hmem hsm ho1 ho2 htk hll hnf
      obtain ⟨⟨b, o, s⟩, d⟩ := x
      unfold ItemV at HAdd
      dsimp only at c0 c1 c2 c3 HAdd
      generalize hdl : d.length = dl at c3 HAdd
      clear hdl
      have HBa : Hid (Below wr.heap.size wr (wr.alloc (.cells #[.int .i64 b, .int .i64 o, .string s, .slice Ak dl ck] 34))) := (Below.refl _ _).alloc (Nat.le_refl _) _
      go_wp2
      go_region_held3 (fun W => W.cell? ⟨wr.heap.size, 0, none⟩ = some (.int .i64 b) ∧ W.cell? ⟨wr.heap.size, 1, none⟩ = some (.int .i64 o) ∧ W.cell? ⟨wr.heap.size, 2, none⟩ = some (.string s) ∧ W.cell? ⟨wr.heap.size, 3, none⟩ = some (.slice Ak dl ck)) (first | exact ⟨by simp, by simp, by simp, by simp⟩ | exact D9.out | go_keep)
        (first | (go_at_call 34; (with_reducible refine (HAdd.out _ HBa.out.drew).mono ?_); rintro e w9 ⟨rfl, F9, hy9, hk9, hf9⟩; have HY9 := Lib.hid hy9; have HK9 := Lib.hid hk9; have HF9 := Lib.hid hf9; have D9 : Hid (w9.cell? ⟨wr.heap.size, 0, none⟩ = some (.int .i64 b) ∧ w9.cell? ⟨wr.heap.size, 1, none⟩ = some (.int .i64 o) ∧ w9.cell? ⟨wr.heap.size, 2, none⟩ = some (.string s) ∧ w9.cell? ⟨wr.heap.size, 3, none⟩ = some (.slice Ak dl ck)) := (by have e : ∀ i, w9.cell? ⟨wr.heap.size, i, none⟩ = ((wr.alloc (.cells #[.int .i64 b, .int .i64 o, .string s, .slice Ak dl ck] 34)).drew).cell? ⟨wr.heap.size, i, none⟩ := fun i => hk9.cell (a := ⟨wr.heap.size, i, none⟩) (by simp) (fun q => Nat.lt_irrefl _ (hFlt.out _ q)); unfold Hid; rw [e, e, e, e]; exact ⟨by simp, by simp, by simp, by simp⟩); clear hy9 hk9 hf9))
      all_goals
        obtain ⟨y, hy1, hy2⟩ := HY9.out
        have HY1 := Lib.hid hy1
        have HY2 := Lib.hid hy2
        clear hy1 hy2
        go_wp2
        go_roundw
        case rel =>
          refine ⟨j + 1, l' ++ [y], F9, by omega, by go_num, ?_, ?_, ?_, ?_⟩
          · unfold Hid
            rw [Htk.out]
            exact Added.snoc hadd.out (by rw [List.length_take, Nat.min_eq_left (by omega)]; exact HY1.out)
          · have := HY2.out
            rw [show k + (j : Int) + 1 = k + ((j + 1 : Nat) : Int) by omega] at this
            exact this
          · have K1 : Kept wr w9 F' := (Kept.fresh (S := F') HBa.out.drew).trans HK9.out (fun b q => .inl q)
            exact hK.out.trans K1 hF.out
          · intro b q
            have hs0 := hK.out.size
            rcases HF9.out b q with q | q
            · exact hF.out b q
            · exact .inr (by simp at q; omega)
        case measure => simp [intOf]; omega
    · obtain rfl : j = its.length := by omega
      have hlti : ¬ (its.length : Int) < (its.length : Int) := by omega
      rw [List.take_length] at hadd
      go_wp2
      go_ret2
      exact ⟨rfl, F', ⟨l', hadd.out, hE.out⟩, hK.out, hF.out⟩
end Go.Proofs.Ytegacggkdjgdiaa
