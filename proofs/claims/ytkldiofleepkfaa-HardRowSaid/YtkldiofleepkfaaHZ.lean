/- Add of an engine that writes together. -/
import Derived.Test.YtkldiofleepkfaaHYJ
import Derived.Test.YtkldiofleepkfaaHYN
set_option linter.unusedVariables false
set_option linter.unusedSimpArgs false
namespace Go.Proofs.Ytkldiofleepkfaa.Hd
open Go.RowKit
open Go.Maps (Keyed)
theorem refuses_ok {n wl : Nat} {k : Int} {its : List It} (h : refusesE n k wl its = 0) :
    (∀ x ∈ its, x.p.right = true ∧ x.p.b < n) ∧ (∀ j, j < its.length → ∀ d ∈ (itN its j).d, d < k ∧ -1 - d < j) ∧ its.length + wl ≤ 200 := by
  unfold refusesE at h
  split at h
  · cases h
  · next h1 =>
    split at h
    · cases h
    · next h2 =>
      split at h
      · cases h
      · next h3 =>
        refine ⟨fun x hx => ?_, fun j hj d hd => ?_, by omega⟩
        · rw [Bool.not_eq_true, List.any_eq_false] at h1
          have := h1 x hx
          simp [badForm] at this
          exact ⟨this.1, by omega⟩
        · rw [Bool.not_eq_true] at h2
          unfold badAll at h2
          rw [List.any_eq_false] at h2
          have := h2 j (List.mem_range.2 hj)
          unfold badDeps at this
          rw [Bool.not_eq_true, List.any_eq_false] at this
          have := this d hd
          simp [badDep] at this
          omega
theorem refuses_err {n wl : Nat} {k : Int} {its : List It} : refusesE n k wl its = 0 ∨ refusesE n k wl its = 3 ∨ refusesE n k wl its = 2 ∨ refusesE n k wl its = 11 := by
  unfold refusesE
  split
  · exact .inr (.inl rfl)
  · split
    · exact .inr (.inr (.inl rfl))
    · split
      · exact .inr (.inr (.inr rfl))
      · exact .inl rfl

/-- what an engine is besides its disk: its next number, how many joined and were idle, what waits, what was sent -/
structure Hs where
  k : Int
  jo : Int
  id : Int
  l : List Hw
  sent : List Int
/-- its counts -/
structure Hs.Cnt (s : Hs) : Prop where
  j0 : 0 ≤ s.jo
  i0 : 0 ≤ s.id
  k0 : 0 ≤ s.k
  le : s.jo + s.id ≤ s.k
def EngS (w : World) (g n : Nat) (S : Nat → Bk) (cc : Nat) (s : Hs) (F : Nat → Prop) : Prop := Eng w g n S cc s.k s.jo s.id s.l s.sent F
/-- those that a patch of a call comes behind -/
def ahS (s : Hs) (first : Int) (x : It) : List Int := ahH s.l (x.d.map (depN first)) x.p
open Classical in
/-- one patch more -/
noncomputable def add1 (S : Nat → Bk) (first : Int) (s : Hs) (x : It) : Hs :=
  if ahS s first x = [] ∧ idleB (blkH S s.l x.p.b) x.p = true then { s with k := s.k + 1, id := s.id + 1 }
  else { s with k := s.k + 1, jo := if joinsH s.l s.sent x.p.b (ahS s first x) then s.jo + 1 else s.jo, l := addH s.l s.sent s.k x.p (ahS s first x) }
noncomputable def addAll (S : Nat → Bk) (first : Int) (s : Hs) (its : List It) : Hs := its.foldl (add1 S first) s
theorem addAll_snoc (S : Nat → Bk) (first : Int) (s : Hs) (its : List It) (x : It) : addAll S first s (its ++ [x]) = add1 S first (addAll S first s its) x := by simp [addAll]
theorem add1_k (S : Nat → Bk) (first : Int) (s : Hs) (x : It) : (add1 S first s x).k = s.k + 1 := by unfold add1; split <;> rfl
theorem add1_len (S : Nat → Bk) (first : Int) (s : Hs) (x : It) : (add1 S first s x).l.length ≤ s.l.length + 1 := by
  unfold add1
  split
  · simp
  · simp [addH]
theorem add1_sent (S : Nat → Bk) (first : Int) (s : Hs) (x : It) : (add1 S first s x).sent = s.sent := by unfold add1; split <;> rfl
theorem add1_cnt {S : Nat → Bk} {first : Int} {s : Hs} (h : s.Cnt) (x : It) : (add1 S first s x).Cnt := by
  obtain ⟨h1, h2, h3, h4⟩ := h
  unfold add1
  split
  · exact ⟨h1, by dsimp; omega, by dsimp; omega, by dsimp; omega⟩
  · refine ⟨?_, h2, by dsimp; omega, ?_⟩
    · dsimp only; split <;> omega
    · dsimp only; split <;> omega
theorem addAll_k (S : Nat → Bk) (first : Int) (s : Hs) (its : List It) : (addAll S first s its).k = s.k + its.length := by
  induction its generalizing s with
  | nil => simp [addAll]
  | cons x r ih =>
    have : addAll S first s (x :: r) = addAll S first (add1 S first s x) r := rfl
    rw [this, ih, add1_k, List.length_cons]; omega
theorem addAll_len (S : Nat → Bk) (first : Int) (s : Hs) (its : List It) : (addAll S first s its).l.length ≤ s.l.length + its.length := by
  induction its generalizing s with
  | nil => simp [addAll]
  | cons x r ih =>
    have : addAll S first s (x :: r) = addAll S first (add1 S first s x) r := rfl
    rw [this, List.length_cons]
    have h1 := ih (add1 S first s x)
    have h2 := add1_len S first s x
    omega
theorem addAll_sent (S : Nat → Bk) (first : Int) (s : Hs) (its : List It) : (addAll S first s its).sent = s.sent := by
  induction its generalizing s with
  | nil => rfl
  | cons x r ih =>
    have : addAll S first s (x :: r) = addAll S first (add1 S first s x) r := rfl
    rw [this, ih, add1_sent]
theorem addAll_cnt {S : Nat → Bk} {first : Int} {s : Hs} (h : s.Cnt) (its : List It) : (addAll S first s its).Cnt := by
  induction its generalizing s with
  | nil => exact h
  | cons x r ih => exact ih (add1_cnt h x)
theorem add_any {w : World} {g gd n cc : Nat} {S : Nat → Bk} {s : Hs} {m : Lay} {Fd : Nat → Prop} (h : HAt w g gd n S cc s.k s.jo s.id s.l s.sent m Fd) (hcc : cc ≤ 99999) (hk : s.k < 1000000) (hl : s.l.length < 200) (hc : s.Cnt) (Ax : Option Addr) (cx : Nat) (x : It) (hI : IntsF w (footH g s.l m Fd) Ax x.d) (hs : x.small) (hr : x.p.right = true) (hb : x.p.b < n)
    (first : Int) (hf0 : 0 ≤ first) (hf1 : first ≤ 1000000) (hd : ∀ y ∈ x.d, -1000 ≤ y) :
    Calls Try.prog 20 #[.pointer (some ⟨g, 0, none⟩), ItemV x Ax cx, .int .i64 first] w fun e w' => e = .returned (.tuple #[]) ∧ Went w w' (footH g s.l m Fd) (EngS w' g n S (cc + 1) (add1 S first s x)) := by
  obtain ⟨h1, h2, h3, h4⟩ := hc
  by_cases hi : ahS s first x = [] ∧ idleB (blkH S s.l x.p.b) x.p = true
  · refine (add_idle h hcc hk hl ⟨h1, by omega⟩ ⟨h2, by omega⟩ Ax cx x hI hs hr hb first hf0 hf1 hd hi.1 hi.2).mono ?_
    rintro e w' ⟨rfl, hw⟩
    refine ⟨rfl, Went.mono' hw (fun F' q => ?_)⟩
    unfold add1 EngS
    rw [if_pos hi]
    exact q.mono (Nat.le_succ _)
  · by_cases hj : joinsH s.l s.sent x.p.b (ahS s first x)
    · refine (add_join h hcc hk hl ⟨h1, by omega⟩ ⟨h2, by omega⟩ Ax cx x hI hs hr hb first hf0 hf1 hd hi hj).mono ?_
      rintro e w' ⟨rfl, hw⟩
      refine ⟨rfl, Went.mono' hw (fun F' q => ?_)⟩
      unfold add1 EngS
      rw [if_neg hi]
      dsimp only
      rw [if_pos hj]
      exact q
    · refine (add_new h hcc hk hl ⟨h1, by omega⟩ ⟨h2, by omega⟩ Ax cx x hI hs hr hb first hf0 hf1 hd hi hj).mono ?_
      rintro e w' ⟨rfl, hw⟩
      refine ⟨rfl, Went.mono' hw (fun F' q => ?_)⟩
      unfold add1 EngS
      rw [if_neg hi]
      dsimp only
      rw [if_neg hj]
      exact q
theorem itN_take {its : List It} {j : Nat} (h : j < its.length) : its.take (j + 1) = its.take j ++ [itN its j] := by
  rw [List.take_succ_eq_append_getElem h, itN_lt h]
section
variable {w : World} {g n cc : Nat} {S : Nat → Bk} {s : Hs} {F : Nat → Prop}
set_option maxRecDepth 100000 in
theorem hadd_no (h : EngS w g n S cc s F) (AI : Option Addr) (cI : Nat) (its : List It) (hI : ItemsF w F AI its) (hs : SmallI its) (hl : its.length ≤ 1000) (hr : refusesE n s.k s.l.length its ≠ 0) :
    Calls Try.prog 7 #[.pointer (some ⟨g, 0, none⟩), .slice AI its.length cI] w fun e w' => e = .returned (.tuple #[.int .i64 0, .int .i64 (refusesE n s.k s.l.length its)]) ∧ Below w.heap.size w w' := by
  obtain ⟨gd, m, Fd, h, rfl⟩ := h
  have HR := Lib.hid (refuses_any h (footH g s.l m Fd) AI cI its hI hs hl)
  have hge := h.glt
  have hcs := @refuses_err n s.l.length s.k its
  generalize refusesE n s.k s.l.length its = r at *
  generalize its.length = m at *
  clear hI hs h
  rcases hcs with q | q | q | q
  · exact absurd q hr
  all_goals
    subst q
    clear hr
    go_enter Try.func7, Try.ntmps7
    go_wp2_with (refine HR.out.mono ?_; rintro e w1 ⟨rfl, hb1⟩; have HB1 := Lib.hid hb1; clear hb1)
    go_ret2
    exact ⟨rfl, HB1.out⟩
set_option maxRecDepth 100000 in
set_option maxHeartbeats 4000000 in
theorem hadd (h : EngS w g n S cc s F) (hc : s.Cnt) (AI : Option Addr) (cI : Nat) (its : List It) (hI : ItemsF w F AI its) (hs : SmallI its) (hk1 : s.k ≤ 900000) (hcc : cc + its.length ≤ 99999) (hr : refusesE n s.k s.l.length its = 0) :
    Calls Try.prog 7 #[.pointer (some ⟨g, 0, none⟩), .slice AI its.length cI] w fun e w' => e = .returned (.tuple #[.int .i64 s.k, .int .i64 0]) ∧ Went w w' F (EngS w' g n S (cc + its.length) (addAll S s.k s its)) := by
  obtain ⟨hok1, hok2, hok3⟩ := refuses_ok hr
  obtain ⟨gd, m, Fd, h, rfl⟩ := h
  have HR := Lib.hid (refuses_any h (footH g s.l m Fd) AI cI its hI hs (by omega))
  rw [hr] at HR
  have HE := Lib.hid h
  have HI := Lib.hid hI
  have HSm := Lib.hid hs
  have Hok1 := Lib.hid hok1
  have Hok2 := Lib.hid hok2
  have Hc := Lib.hid hc
  have hk0 := hc.k0
  have hge := h.glt
  clear h hI hs hr hok1 hok2 hc
  obtain ⟨k, hk⟩ : ∃ k, k = s.k := ⟨_, rfl⟩
  have Hk := Lib.hid hk
  rw [← hk] at hk0 hk1 ⊢
  clear hk
  go_enter Try.func7, Try.ntmps7
  go_wp2_with (refine HR.out.mono ?_; rintro e w1 ⟨rfl, hb1⟩; have HB1 := Lib.hid hb1; have HE1 := Lib.hid (HE.out.fresh hb1); have e1 := HE1.out.c1; rw [← Hk.out] at e1; have hg1 := HE1.out.glt; clear hb1)
  go_loopw [24] (fun q wr => ∃ (j : Nat) (F' : Nat → Prop), j ≤ its.length ∧ q = .int .i64 j ∧ Hid (EngS wr g n S (cc + j) (addAll S k s (its.take j)) F') ∧ Hid (Kept w wr (footH g s.l m Fd)) ∧ Hid (∀ b, F' b → footH g s.l m Fd b ∨ w.heap.size ≤ b)) (fun q _ => its.length - (intOf q).toNat)
  case atStart => exact ⟨0, footH g s.l m Fd, Nat.zero_le _, rfl, ⟨gd, m, Fd, HE1.out, rfl⟩, Kept.fresh HB1.out, fun b q => .inl q⟩
  case round =>
    obtain ⟨j, F', hj, rfl, hE, hK, hF⟩ := hrel
    rename World => wr
    by_cases hlt : j < its.length
    · have hlti : (j : Int) < (its.length : Int) := by omega
      have hj0 : (0 : Int) ≤ (j : Int) := by omega
      obtain ⟨ib, io, Ak, ck, hAI, hib, hnf, hx⟩ := (HI.out.keep hK.out (fun _ q => q) hF.out).at_ hlt
      subst hAI
      obtain ⟨c0, c1, c2, c3, hints⟩ := hx
      have hmem := itN_mem hlt
      have hsm := HSm.out _ hmem
      have ho1 := Hok1.out _ hmem
      have ho2 := Hok2.out j hlt
      have htk := itN_take hlt
      have hll := addAll_len S k s (its.take j)
      have hkk := addAll_k S k s (its.take j)
      have hcn := addAll_cnt (S := S) (first := k) Hc.out (its.take j)
      rw [List.length_take] at hll hkk
      rw [← Hk.out] at hkk
      obtain ⟨gd', m', Fd', hEA, hFe⟩ := hE.out
      have hgr := hEA.glt
      have HAdd : Hid (∀ W, Below wr.heap.size wr W → Calls Try.prog 20 #[.pointer (some ⟨g, 0, none⟩), ItemV (itN its j) Ak ck, .int .i64 k] W fun e w' => e = .returned (.tuple #[]) ∧ Went W w' F' (EngS w' g n S (cc + (j + 1)) (addAll S k s (its.take (j + 1))))) := fun W hW => by
        refine (add_any (s := addAll S k s (its.take j)) (hEA.fresh hW) (by omega) (by omega) (by omega) hcn Ak ck (itN its j) (by rw [← hFe]; exact hints.keep (G := fun _ => False) (Kept.fresh hW) (fun _ q => q.elim) (fun _ q => .inl q)) hsm ho1.1 ho1.2 k hk0 (by omega) (fun y hy => by have := (ho2 y hy).2; omega)).mono ?_
        rintro e w' ⟨rfl, hw⟩
        refine ⟨rfl, ?_⟩
        rw [hFe, htk, addAll_snoc]
        exact hw
      have hFlt : Hid (∀ b, F' b → b < wr.heap.size) := fun b q => hE.out.lt b q
      obtain ⟨x, hx⟩ : ∃ x, x = itN its j := ⟨_, rfl⟩
      rw [← hx] at c0 c1 c2 c3 HAdd
      clear hx hEA hFe hints hmem hsm ho1 ho2 htk hll hnf hkk hcn
      obtain ⟨⟨b, o, s'⟩, d⟩ := x
      unfold ItemV at HAdd
      dsimp only at c0 c1 c2 c3 HAdd
      generalize hdl : d.length = dl at c3 HAdd
      clear hdl
      have HBa : Hid (Below wr.heap.size wr (wr.alloc (.cells #[.int .i64 b, .int .i64 o, .string s', .slice Ak dl ck] 35))) := (Below.refl _ _).alloc (Nat.le_refl _) _
      go_wp2_with (go_at_call 20; (with_reducible refine (HAdd.out _ HBa.out).mono ?_); rintro e w9 ⟨rfl, F9, hy9, hk9, hf9⟩; have HY9 := Lib.hid hy9; have HK9 := Lib.hid hk9; have HF9 := Lib.hid hf9; clear hy9 hk9 hf9)
      go_roundw
      case rel =>
        refine ⟨j + 1, F9, by omega, by go_num, HY9.out, ?_, ?_⟩
        · have K1 : Kept wr w9 F' := (Kept.fresh (S := F') HBa.out).trans HK9.out (fun b q => .inl q)
          exact hK.out.trans K1 hF.out
        · intro b q
          have hs0 := hK.out.size
          rcases HF9.out b q with q | q
          · exact hF.out b q
          · exact .inr (by simp at q; omega)
      case measure => simp [intOf]; omega
    · obtain rfl : j = its.length := by omega
      have hlti : ¬ (its.length : Int) < (its.length : Int) := by omega
      rw [List.take_length] at hE
      go_wp2
      go_ret2
      exact ⟨rfl, F', hE.out, hK.out, hF.out⟩
end
end Go.Proofs.Ytkldiofleepkfaa.Hd
