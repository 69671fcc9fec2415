/- Items: patches with the numbers that they come behind; whether they may be added: refuses. -/
import Derived.Test.YtegacggkdjgdiaaEN
import Derived.Test.YtegacggkdjgdiaaH4
set_option linter.unusedVariables false
set_option linter.unusedSimpArgs false
namespace Go.Proofs.Ytegacggkdjgdiaa
open Go.RowKit

/-- a patch, and the numbers that it comes behind -/
structure It where
  p : Pt
  d : List Int
def itN (l : List It) (k : Nat) : It := l.getD k ⟨⟨0, 0, ByteArray.empty⟩, []⟩
theorem itN_lt {l : List It} {k : Nat} (h : k < l.length) : itN l k = l[k] := by
  unfold itN; rw [List.getD_eq_getElem?_getD, List.getElem?_eq_getElem h]; rfl
def I64 (x : Int) : Prop := -9223372036854775808 ≤ x ∧ x ≤ 9223372036854775807
def It.small (x : It) : Prop := x.p.ok ∧ x.d.length ≤ 1000 ∧ ∀ y ∈ x.d, I64 y
def SmallI (l : List It) : Prop := ∀ x ∈ l, x.small
/-- under A, outside the blocks F, the cells are the numbers zs -/
def IntsF (w : World) (F : Nat → Prop) (A : Option Addr) (zs : List Int) : Prop := 0 < zs.length → ∃ b off, A = some ⟨b, off, none⟩ ∧ b < w.heap.size ∧ ¬ F b ∧ ∀ j (h : j < zs.length), w.cell? ⟨b, off + j, none⟩ = some (.int .i64 zs[j])
/-- the cells of an item -/
structure ItAt (w : World) (F : Nat → Prop) (b o : Nat) (x : It) (A : Option Addr) (c : Nat) : Prop where
  c0 : w.cell? ⟨b, o, none⟩ = some (.int .i64 x.p.b)
  c1 : w.cell? ⟨b, o + 1, none⟩ = some (.int .i64 x.p.o)
  c2 : w.cell? ⟨b, o + 2, none⟩ = some (.string x.p.s)
  c3 : w.cell? ⟨b, o + 3, none⟩ = some (.slice A x.d.length c)
  row : IntsF w F A x.d
def ItemsF (w : World) (F : Nat → Prop) (A : Option Addr) (l : List It) : Prop :=
  0 < l.length → ∃ (b off : Nat) (Af : Nat → Option Addr) (Cf : Nat → Nat), A = some ⟨b, off, none⟩ ∧ b < w.heap.size ∧ ¬ F b ∧ ∀ j, j < l.length → ItAt w F b (off + j * 4) (itN l j) (Af j) (Cf j)
section
variable {w w' : World} {F F' G : Nat → Prop} {A : Option Addr} {l : List It}
theorem IntsF.keep {zs : List Int} (h : IntsF w F A zs) (hk : Kept w w' G) (hG : ∀ b, G b → F b) (hF : ∀ b, F' b → F b ∨ w.heap.size ≤ b) : IntsF w' F' A zs := fun hn => by
  obtain ⟨b, off, e, hb, hf, hc⟩ := h hn
  exact ⟨b, off, e, Nat.lt_of_lt_of_le hb hk.size, fun q => (hF b q).elim hf (fun q => by omega), fun j hj => (hk.cell (a := ⟨b, off + j, none⟩) hb (fun q => hf (hG b q))).trans (hc j hj)⟩
theorem ItAt.keep {b o : Nat} {x : It} {A : Option Addr} {c : Nat} (h : ItAt w F b o x A c) (hb : b < w.heap.size) (hf : ¬ F b) (hk : Kept w w' G) (hG : ∀ b, G b → F b) (hF : ∀ b, F' b → F b ∨ w.heap.size ≤ b) : ItAt w' F' b o x A c := by
  have e : ∀ j, w'.cell? ⟨b, j, none⟩ = w.cell? ⟨b, j, none⟩ := fun j => hk.cell (a := ⟨b, j, none⟩) hb (fun q => hf (hG b q))
  exact ⟨(e _).trans h.c0, (e _).trans h.c1, (e _).trans h.c2, (e _).trans h.c3, h.row.keep hk hG hF⟩
theorem ItemsF.keep (h : ItemsF w F A l) (hk : Kept w w' G) (hG : ∀ b, G b → F b) (hF : ∀ b, F' b → F b ∨ w.heap.size ≤ b) : ItemsF w' F' A l := fun hn => by
  obtain ⟨b, off, Af, Cf, e, hb, hf, hc⟩ := h hn
  exact ⟨b, off, Af, Cf, e, Nat.lt_of_lt_of_le hb hk.size, fun q => (hF b q).elim hf (fun q => by omega), fun j hj => (hc j hj).keep hb hf hk hG hF⟩
theorem ItemsF.fresh (h : ItemsF w F A l) (hB : Below w.heap.size w w') : ItemsF w' F A l := h.keep (G := fun _ => False) (Kept.fresh hB) (fun _ q => q.elim) (fun _ q => .inl q)
theorem ItemsF.at_ (h : ItemsF w F A l) {k : Nat} (hk : k < l.length) : ∃ b off Ak ck, A = some ⟨b, off, none⟩ ∧ b < w.heap.size ∧ ¬ F b ∧ ItAt w F b (off + k * 4) (itN l k) Ak ck := by
  obtain ⟨b, off, Af, Cf, e, hb, hf, hc⟩ := h (by omega)
  exact ⟨b, off, _, _, e, hb, hf, hc k hk⟩
end
theorem itN_mem {l : List It} {k : Nat} (h : k < l.length) : itN l k ∈ l := by rw [itN_lt h]; exact List.getElem_mem h
theorem place_any (d : Int) (hd : I64 d) (w : World) : Calls Try.prog 62 #[.int .i64 d] w fun e w' => e = .returned (.int .i64 (-1 - d)) ∧ w = w' := by
  have hw : IntKind.i64.wrap (-1 - d) = -1 - d := by unfold I64 at hd; simp [IntKind.wrap, IntKind.bits, IntKind.signed]; omega
  clear hd
  go_enter Try.func62, Try.ntmps62
  go_wp2
  go_ret
  exact ⟨rfl, rfl⟩

def badForm (n : Nat) (x : It) : Bool := !x.p.right || decide ((n : Int) ≤ x.p.b)
def badDep (k : Int) (t : Nat) (d : Int) : Bool := decide (k ≤ d) || decide ((t : Int) ≤ -1 - d)
def badDeps (k : Int) (t : Nat) (x : It) : Bool := x.d.any (badDep k t)
def badAll (k : Int) (l : List It) : Bool := (List.range l.length).any fun t => badDeps k t (itN l t)
def refusesE (n : Nat) (k : Int) (wl : Nat) (l : List It) : Int := if l.any (badForm n) then 3 else if badAll k l then 2 else if 200 < l.length + wl then 11 else 0
theorem form_at {n : Nat} {l : List It} {j : Nat} (hj : j < l.length) (h : badForm n (itN l j) = true) : l.any (badForm n) = true := List.any_eq_true.2 ⟨_, itN_mem hj, h⟩
theorem form_none {n : Nat} {l : List It} (h : ∀ j, j < l.length → badForm n (itN l j) = false) : l.any (badForm n) = false := by
  rw [List.any_eq_false]
  intro x hx
  obtain ⟨j, hj, rfl⟩ := List.mem_iff_getElem.1 hx
  have := h j hj
  rw [itN_lt hj] at this
  simp [this]
theorem badAll_at {k : Int} {l : List It} {j m : Nat} (hj : j < l.length) (hm : m < (itN l j).d.length) (h : badDep k j (itN l j).d[m] = true) : badAll k l = true :=
  List.any_eq_true.2 ⟨j, List.mem_range.2 hj, List.any_eq_true.2 ⟨_, List.getElem_mem hm, h⟩⟩
theorem badAll_none {k : Int} {l : List It} (h : ∀ j, j < l.length → badDeps k j (itN l j) = false) : badAll k l = false := by
  unfold badAll
  rw [List.any_eq_false]
  intro j hj
  have := h j (List.mem_range.1 hj)
  simp [this]

set_option maxRecDepth 100000 in
set_option maxHeartbeats 4000000 in
theorem refuses_any (ge gd n cc c : Nat) (k : Int) (S : Nat → Bk) (Fd : Nat → Prop) (l : List Wr) (A : Option Addr) (F : Nat → Prop) (AI : Option Addr) (cI : Nat) (its : List It) (w : World) (hE : EngAt w ge gd n S cc k l A c Fd) (hI : ItemsF w F AI its) (hs : SmallI its) (hl : its.length ≤ 1000) :
    Calls Try.prog 33 #[.pointer (some ⟨ge, 0, none⟩), .slice AI its.length cI] w fun e w' => e = .returned (.int .i64 (refusesE n k l.length its)) ∧ Below w.heap.size w w' := by
  have HE := Lib.hid hE
  have HI := Lib.hid hI
  have HSm := Lib.hid hs
  have hfew : l.length ≤ 200 := hE.few
  clear hE hI hs
  go_enter Try.func33, Try.ntmps33
  go_wp2
  go_loopw [13] (fun q wr => ∃ j : Nat, j ≤ its.length ∧ q = .int .i64 j ∧ Below w.heap.size w wr ∧ Hid (∀ t, t < j → badForm n (itN its t) = false)) (fun q _ => its.length - (intOf q).toNat)
  case atStart => exact ⟨0, Nat.zero_le _, rfl, Below.refl _ _, fun t ht => absurd ht (by omega)⟩
  case round =>
    obtain ⟨j, hj, rfl, hB, hno⟩ := hrel
    rename World => wr
    have HB := Lib.hid hB
    have hsz := hB.size
    by_cases hlt : j < its.length
    · have hlti : (j : Int) < (its.length : Int) := by omega
      have hj0 : (0 : Int) ≤ (j : Int) := by omega
      obtain ⟨ib, io, Ak, ck, rfl, hib, _, hx⟩ := (HI.out.fresh hB).at_ hlt
      obtain ⟨c0, c1, c2, c3, _⟩ := hx
      have hsm := HSm.out _ (itN_mem hlt)
      have Hat := Lib.hid (@form_at n its j hlt)
      have Hn1 : Hid (badForm n (itN its j) = false → ∀ t, t < j + 1 → badForm n (itN its t) = false) := fun h t ht => by
        rcases Nat.lt_or_ge t j with q | q
        · exact hno.out t q
        · obtain rfl : t = j := by omega
          exact h
      obtain ⟨x, hx⟩ : ∃ x, x = itN its j := ⟨_, rfl⟩
      rw [← hx] at c0 c1 c2 c3 hsm Hat Hn1
      clear hx hB
      obtain ⟨⟨b, o, s⟩, d⟩ := x
      dsimp only at c0 c1 c2 c3
      have hok : (Pt.mk b o s).ok := hsm.1
      have HR := Lib.hid (fun W => right_any ⟨b, o, s⟩ W hok)
      have HBF : Hid (badForm n ⟨⟨b, o, s⟩, d⟩ = (!(Pt.mk b o s).right || decide ((n : Int) ≤ b))) := rfl
      obtain ⟨r, hr⟩ : ∃ r, r = (Pt.mk b o s).right := ⟨_, rfl⟩
      rw [← hr] at HR HBF
      clear hok hsm hr
      unfold Pt.v at HR
      dsimp only at HR
      generalize d.length = dl at c3
      cases r with
      | false =>
        have Hbad : Hid (refusesE n k l.length its = 3) := by unfold Hid refusesE; rw [Hat.out (by rw [HBF.out]; rfl)]; rfl
        clear Hat Hn1
        go_wp2
        have hB1 : Below wr.heap.size wr (wr.alloc (.cells #[.int .i64 b, .int .i64 o, .string s, .slice Ak dl ck] 34)) := (Below.refl _ _).alloc (Nat.le_refl _) _
        have hp1 : (wr.alloc (.cells #[.int .i64 b, .int .i64 o, .string s, .slice Ak dl ck] 34)).heap[wr.heap.size]? = some (.cells #[.int .i64 b, .int .i64 o, .string s, .slice Ak dl ck] 34 (0, 0)) := heap_alloc_new wr _
        generalize wr.alloc (.cells #[.int .i64 b, .int .i64 o, .string s, .slice Ak dl ck] 34) = W1 at hB1 hp1 ⊢
        obtain ⟨p, hp⟩ : ∃ p, p = wr.heap.size := ⟨_, rfl⟩
        rw [← hp] at hp1 ⊢
        have hpW : p < W1.heap.size := (Array.getElem?_eq_some_iff.1 hp1).1
        have HB1 := Lib.hid (HB.out.trans (hB1.mono hsz))
        have HX : Hid (∀ W, Below W1.heap.size W1 W → W.cell? ⟨p, 0, none⟩ = some (.int .i64 b) ∧ W.cell? ⟨p, 1, none⟩ = some (.int .i64 o) ∧ W.cell? ⟨p, 2, none⟩ = some (.string s) ∧ W.cell? ⟨ge, 0, none⟩ = some (.pointer (some ⟨gd, 0, none⟩))) := fun W hW => by
          have hh := (hW.block _ hpW).trans hp1
          exact ⟨cell_of_row W _ 0 _ 34 (0, 0) hh, cell_of_row W _ 1 _ 34 (0, 0) hh, cell_of_row W _ 2 _ 34 (0, 0) hh, (HE.out.fresh (HB1.out.trans (hW.mono HB1.out.size))).head.c0⟩
        have X0 := Lib.hid (HX.out _ ((Below.refl _ _).drew))
        clear hp1 hB1 hp
        refine wp_region_held_drew (S := (fun W => W.cell? ⟨p, 0, none⟩ = some (.int .i64 b) ∧ W.cell? ⟨p, 1, none⟩ = some (.int .i64 o) ∧ W.cell? ⟨p, 2, none⟩ = some (.string s) ∧ W.cell? ⟨ge, 0, none⟩ = some (.pointer (some ⟨gd, 0, none⟩)))) (by kernel_rfl) (X0.out) (fun hHeld => ?_)
        refine takeH (i := 0) (some 17) (v := ?_) rfl rfl (by kernel_rfl) (by kernel_rfl) (by kernel_rfl) (fun _ _ _ h => h) (by rfl) ?_ (by assumption) ?_
        rotate_left
        · (intro w hSw; (try dsimp only at hSw); go_simp; try with_reducible rfl)
        simp only [Act.put, List.setIfInBounds_toArray, List.set_cons_zero, List.set_cons_succ]
        refine takeH (i := 1) (some 18) (v := ?_) rfl rfl (by kernel_rfl) (by kernel_rfl) (by kernel_rfl) (fun _ _ _ h => h) (by rfl) ?_ (by assumption) ?_
        rotate_left
        · (intro w hSw; (try dsimp only at hSw); go_simp; try with_reducible rfl)
        simp only [Act.put, List.setIfInBounds_toArray, List.set_cons_zero, List.set_cons_succ]
        refine wpAnyH_ready (rs := [2]) (by kernel_rfl) (by simp) ?_
        refine AllReadyH.cons rfl (fun K hK => ?_) AllReadyH.nil
        go_simp
        refine (HR.out _).mono ?_
        rintro e w2 ⟨rfl, hb2⟩
        have HB2 : Hid (Below W1.heap.size W1 w2) := ((Below.refl _ _).drew).trans hb2
        clear hb2
        refine hK _ _ (HX.out _ HB2.out) (fun hHeld => ?_)
        clear hK K
        try simp only [Act.put, List.setIfInBounds_toArray, List.set_cons_zero, List.set_cons_succ]
        refine takeH (i := 3) (some 20) (v := ?_) rfl rfl (by kernel_rfl) (by kernel_rfl) (by kernel_rfl) (fun _ _ _ h => h) (by rfl) ?_ (by assumption) ?_
        rotate_left
        · (intro w hSw; (try dsimp only at hSw); go_simp; try with_reducible rfl)
        simp only [Act.put, List.setIfInBounds_toArray, List.set_cons_zero, List.set_cons_succ]
        refine takeH (i := 4) (some 21) (v := ?_) rfl rfl (by kernel_rfl) (by kernel_rfl) (by kernel_rfl) (fun _ _ _ h => h) (by rfl) ?_ (by assumption) ?_
        rotate_left
        · (intro w hSw; (try dsimp only at hSw); go_simp; try with_reducible rfl)
        simp only [Act.put, List.setIfInBounds_toArray, List.set_cons_zero, List.set_cons_succ]
        refine skipH (i := 5) (some 22) rfl rfl (by kernel_rfl) (by kernel_rfl) (by kernel_rfl) (fun _ _ _ h => h) (by rfl) (by assumption) ?_
        simp only [Act.put, List.setIfInBounds_toArray, List.set_cons_zero, List.set_cons_succ]
        refine skipH (i := 6) (some 23) rfl rfl (by kernel_rfl) (by kernel_rfl) (by kernel_rfl) (fun _ _ _ h => h) (by rfl) (by assumption) ?_
        simp only [Act.put, List.setIfInBounds_toArray, List.set_cons_zero, List.set_cons_succ]
        refine skipH (i := 7) (some 24) rfl rfl (by kernel_rfl) (by kernel_rfl) (by kernel_rfl) (fun _ _ _ h => h) (by rfl) (by assumption) ?_
        simp only [Act.put, List.setIfInBounds_toArray, List.set_cons_zero, List.set_cons_succ]
        refine skipH (i := 8) (some 25) rfl rfl (by kernel_rfl) (by kernel_rfl) (by kernel_rfl) (fun _ _ _ h => h) (by rfl) (by assumption) ?_
        simp only [Act.put, List.setIfInBounds_toArray, List.set_cons_zero, List.set_cons_succ]
        refine skipH (i := 9) (some 26) rfl rfl (by kernel_rfl) (by kernel_rfl) (by kernel_rfl) (fun _ _ _ h => h) (by rfl) (by assumption) ?_
        simp only [Act.put, List.setIfInBounds_toArray, List.set_cons_zero, List.set_cons_succ]
        refine skipH (i := 10) (some 27) rfl rfl (by kernel_rfl) (by kernel_rfl) (by kernel_rfl) (fun _ _ _ h => h) (by rfl) (by assumption) ?_
        simp only [Act.put, List.setIfInBounds_toArray, List.set_cons_zero, List.set_cons_succ]
        refine skipH (i := 11) (some 28) rfl rfl (by kernel_rfl) (by kernel_rfl) (by kernel_rfl) (fun _ _ _ h => h) (by rfl) (by assumption) ?_
        simp only [Act.put, List.setIfInBounds_toArray, List.set_cons_zero, List.set_cons_succ]
        refine skipH (i := 12) (some 29) rfl rfl (by kernel_rfl) (by kernel_rfl) (by kernel_rfl) (fun _ _ _ h => h) (by rfl) (by assumption) ?_
        simp only [Act.put, List.setIfInBounds_toArray, List.set_cons_zero, List.set_cons_succ]
        refine skipH (i := 13) (some 30) rfl rfl (by kernel_rfl) (by kernel_rfl) (by kernel_rfl) (fun _ _ _ h => h) (by rfl) (by assumption) ?_
        simp only [Act.put, List.setIfInBounds_toArray, List.set_cons_zero, List.set_cons_succ]
        refine takeH (i := 14) (some 31) (v := ?_) rfl rfl (by kernel_rfl) (by kernel_rfl) (by kernel_rfl) (fun _ _ _ h => h) (by rfl) ?_ (by assumption) ?_
        rotate_left
        · (intro w hSw; (try dsimp only at hSw); go_simp; try with_reducible rfl)
        simp only [Act.put, List.setIfInBounds_toArray, List.set_cons_zero, List.set_cons_succ]
        refine wpAnyH_done (by kernel_rfl) ?_ _
        go_wp2
        go_ret
        rw [Hbad.out]
        exact ⟨rfl, HB1.out.trans (HB2.out.mono HB1.out.size)⟩
      | true =>
        by_cases hnb : (n : Int) ≤ b
        · have Hbad : Hid (refusesE n k l.length its = 3) := by unfold Hid refusesE; rw [Hat.out (by rw [HBF.out, decide_eq_true hnb]; rfl)]; rfl
          clear Hat Hn1
          go_wp2
          have hB1 : Below wr.heap.size wr (wr.alloc (.cells #[.int .i64 b, .int .i64 o, .string s, .slice Ak dl ck] 34)) := (Below.refl _ _).alloc (Nat.le_refl _) _
          have hp1 : (wr.alloc (.cells #[.int .i64 b, .int .i64 o, .string s, .slice Ak dl ck] 34)).heap[wr.heap.size]? = some (.cells #[.int .i64 b, .int .i64 o, .string s, .slice Ak dl ck] 34 (0, 0)) := heap_alloc_new wr _
          generalize wr.alloc (.cells #[.int .i64 b, .int .i64 o, .string s, .slice Ak dl ck] 34) = W1 at hB1 hp1 ⊢
          obtain ⟨p, hp⟩ : ∃ p, p = wr.heap.size := ⟨_, rfl⟩
          rw [← hp] at hp1 ⊢
          have hpW : p < W1.heap.size := (Array.getElem?_eq_some_iff.1 hp1).1
          have HB1 := Lib.hid (HB.out.trans (hB1.mono hsz))
          have HX : Hid (∀ W, Below W1.heap.size W1 W → W.cell? ⟨p, 0, none⟩ = some (.int .i64 b) ∧ W.cell? ⟨p, 1, none⟩ = some (.int .i64 o) ∧ W.cell? ⟨p, 2, none⟩ = some (.string s) ∧ W.cell? ⟨ge, 0, none⟩ = some (.pointer (some ⟨gd, 0, none⟩))) := fun W hW => by
            have hh := (hW.block _ hpW).trans hp1
            exact ⟨cell_of_row W _ 0 _ 34 (0, 0) hh, cell_of_row W _ 1 _ 34 (0, 0) hh, cell_of_row W _ 2 _ 34 (0, 0) hh, (HE.out.fresh (HB1.out.trans (hW.mono HB1.out.size))).head.c0⟩
          have HSz := Lib.hid (fun W (hW : Below W1.heap.size W1 W) => csize (HE.out.fresh (HB1.out.trans (hW.mono HB1.out.size))).disk)
          have X0 := Lib.hid (HX.out _ ((Below.refl _ _).drew))
          clear hp1 hB1 hp
          refine wp_region_held_drew (S := (fun W => W.cell? ⟨p, 0, none⟩ = some (.int .i64 b) ∧ W.cell? ⟨p, 1, none⟩ = some (.int .i64 o) ∧ W.cell? ⟨p, 2, none⟩ = some (.string s) ∧ W.cell? ⟨ge, 0, none⟩ = some (.pointer (some ⟨gd, 0, none⟩)))) (by kernel_rfl) (X0.out) (fun hHeld => ?_)
          refine takeH (i := 0) (some 17) (v := ?_) rfl rfl (by kernel_rfl) (by kernel_rfl) (by kernel_rfl) (fun _ _ _ h => h) (by rfl) ?_ (by assumption) ?_
          rotate_left
          · (intro w hSw; (try dsimp only at hSw); go_simp; try with_reducible rfl)
          simp only [Act.put, List.setIfInBounds_toArray, List.set_cons_zero, List.set_cons_succ]
          refine takeH (i := 1) (some 18) (v := ?_) rfl rfl (by kernel_rfl) (by kernel_rfl) (by kernel_rfl) (fun _ _ _ h => h) (by rfl) ?_ (by assumption) ?_
          rotate_left
          · (intro w hSw; (try dsimp only at hSw); go_simp; try with_reducible rfl)
          simp only [Act.put, List.setIfInBounds_toArray, List.set_cons_zero, List.set_cons_succ]
          refine wpAnyH_ready (rs := [2]) (by kernel_rfl) (by simp) ?_
          refine AllReadyH.cons rfl (fun K hK => ?_) AllReadyH.nil
          go_simp
          refine (HR.out _).mono ?_
          rintro e w2 ⟨rfl, hb2⟩
          have HB2 : Hid (Below W1.heap.size W1 w2) := ((Below.refl _ _).drew).trans hb2
          clear hb2
          refine hK _ _ (HX.out _ HB2.out) (fun hHeld => ?_)
          clear hK K
          try simp only [Act.put, List.setIfInBounds_toArray, List.set_cons_zero, List.set_cons_succ]
          refine takeH (i := 3) (some 20) (v := ?_) rfl rfl (by kernel_rfl) (by kernel_rfl) (by kernel_rfl) (fun _ _ _ h => h) (by rfl) ?_ (by assumption) ?_
          rotate_left
          · (intro w hSw; (try dsimp only at hSw); go_simp; try with_reducible rfl)
          simp only [Act.put, List.setIfInBounds_toArray, List.set_cons_zero, List.set_cons_succ]
          refine takeH (i := 4) (some 21) (v := ?_) rfl rfl (by kernel_rfl) (by kernel_rfl) (by kernel_rfl) (fun _ _ _ h => h) (by rfl) ?_ (by assumption) ?_
          rotate_left
          · (intro w hSw; (try dsimp only at hSw); go_simp; try with_reducible rfl)
          simp only [Act.put, List.setIfInBounds_toArray, List.set_cons_zero, List.set_cons_succ]
          refine takeH (i := 5) (some 22) (v := ?_) rfl rfl (by kernel_rfl) (by kernel_rfl) (by kernel_rfl) (fun _ _ _ h => h) (by rfl) ?_ (by assumption) ?_
          rotate_left
          · (intro w hSw; (try dsimp only at hSw); go_simp; try with_reducible rfl)
          simp only [Act.put, List.setIfInBounds_toArray, List.set_cons_zero, List.set_cons_succ]
          refine takeH (i := 6) (some 23) (v := ?_) rfl rfl (by kernel_rfl) (by kernel_rfl) (by kernel_rfl) (fun _ _ _ h => h) (by rfl) ?_ (by assumption) ?_
          rotate_left
          · (intro w hSw; (try dsimp only at hSw); go_simp; try with_reducible rfl)
          simp only [Act.put, List.setIfInBounds_toArray, List.set_cons_zero, List.set_cons_succ]
          refine takeH (i := 7) (some 24) (v := ?_) rfl rfl (by kernel_rfl) (by kernel_rfl) (by kernel_rfl) (fun _ _ _ h => h) (by rfl) ?_ (by assumption) ?_
          rotate_left
          · (intro w hSw; (try dsimp only at hSw); go_simp; try with_reducible rfl)
          simp only [Act.put, List.setIfInBounds_toArray, List.set_cons_zero, List.set_cons_succ]
          refine takeH (i := 8) (some 25) (v := ?_) rfl rfl (by kernel_rfl) (by kernel_rfl) (by kernel_rfl) (fun _ _ _ h => h) (by rfl) ?_ (by assumption) ?_
          rotate_left
          · (intro w hSw; (try dsimp only at hSw); go_simp; try with_reducible rfl)
          simp only [Act.put, List.setIfInBounds_toArray, List.set_cons_zero, List.set_cons_succ]
          refine takeH (i := 9) (some 26) (v := ?_) rfl rfl (by kernel_rfl) (by kernel_rfl) (by kernel_rfl) (fun _ _ _ h => h) (by rfl) ?_ (by assumption) ?_
          rotate_left
          · (intro w hSw; (try dsimp only at hSw); go_simp; try with_reducible rfl)
          simp only [Act.put, List.setIfInBounds_toArray, List.set_cons_zero, List.set_cons_succ]
          refine takeH (i := 10) (some 27) (v := ?_) rfl rfl (by kernel_rfl) (by kernel_rfl) (by kernel_rfl) (fun _ _ _ h => h) (by rfl) ?_ (by assumption) ?_
          rotate_left
          · (intro w hSw; (try dsimp only at hSw); go_simp; try with_reducible rfl)
          simp only [Act.put, List.setIfInBounds_toArray, List.set_cons_zero, List.set_cons_succ]
          refine takeH (i := 11) (some 28) (v := ?_) rfl rfl (by kernel_rfl) (by kernel_rfl) (by kernel_rfl) (fun _ _ _ h => h) (by rfl) ?_ (by assumption) ?_
          rotate_left
          · (intro w hSw; (try dsimp only at hSw); go_simp; try with_reducible rfl)
          simp only [Act.put, List.setIfInBounds_toArray, List.set_cons_zero, List.set_cons_succ]
          refine wpAnyH_ready (rs := [12]) (by kernel_rfl) (by simp) ?_
          refine AllReadyH.cons rfl (fun K hK => ?_) AllReadyH.nil
          go_simp
          refine (HSz.out _ (HB2.out)).mono ?_
          rintro e w3 ⟨rfl, rfl⟩
          refine hK _ _ (HX.out _ HB2.out) (fun hHeld => ?_)
          clear hK K
          try simp only [Act.put, List.setIfInBounds_toArray, List.set_cons_zero, List.set_cons_succ]
          refine takeH (i := 13) (some 30) (v := ?_) rfl rfl (by kernel_rfl) (by kernel_rfl) (by kernel_rfl) (fun _ _ _ h => h) (by rfl) ?_ (by assumption) ?_
          rotate_left
          · (intro w hSw; (try dsimp only at hSw); go_simp; try with_reducible rfl)
          simp only [Act.put, List.setIfInBounds_toArray, List.set_cons_zero, List.set_cons_succ]
          refine takeH (i := 14) (some 31) (v := ?_) rfl rfl (by kernel_rfl) (by kernel_rfl) (by kernel_rfl) (fun _ _ _ h => h) (by rfl) ?_ (by assumption) ?_
          rotate_left
          · (intro w hSw; (try dsimp only at hSw); go_simp; try with_reducible rfl)
          simp only [Act.put, List.setIfInBounds_toArray, List.set_cons_zero, List.set_cons_succ]
          refine wpAnyH_done (by kernel_rfl) ?_ _
          go_wp2
          go_ret
          rw [Hbad.out]
          exact ⟨rfl, HB1.out.trans (HB2.out.mono HB1.out.size)⟩
        · have Hn2 := Lib.hid (Hn1.out (by rw [HBF.out, decide_eq_false hnb]; rfl))
          have hnb2 : b < (n : Int) := by omega
          clear Hat Hn1 hnb
          go_wp2
          have hB1 : Below wr.heap.size wr (wr.alloc (.cells #[.int .i64 b, .int .i64 o, .string s, .slice Ak dl ck] 34)) := (Below.refl _ _).alloc (Nat.le_refl _) _
          have hp1 : (wr.alloc (.cells #[.int .i64 b, .int .i64 o, .string s, .slice Ak dl ck] 34)).heap[wr.heap.size]? = some (.cells #[.int .i64 b, .int .i64 o, .string s, .slice Ak dl ck] 34 (0, 0)) := heap_alloc_new wr _
          generalize wr.alloc (.cells #[.int .i64 b, .int .i64 o, .string s, .slice Ak dl ck] 34) = W1 at hB1 hp1 ⊢
          obtain ⟨p, hp⟩ : ∃ p, p = wr.heap.size := ⟨_, rfl⟩
          rw [← hp] at hp1 ⊢
          have hpW : p < W1.heap.size := (Array.getElem?_eq_some_iff.1 hp1).1
          have HB1 := Lib.hid (HB.out.trans (hB1.mono hsz))
          have HX : Hid (∀ W, Below W1.heap.size W1 W → W.cell? ⟨p, 0, none⟩ = some (.int .i64 b) ∧ W.cell? ⟨p, 1, none⟩ = some (.int .i64 o) ∧ W.cell? ⟨p, 2, none⟩ = some (.string s) ∧ W.cell? ⟨ge, 0, none⟩ = some (.pointer (some ⟨gd, 0, none⟩))) := fun W hW => by
            have hh := (hW.block _ hpW).trans hp1
            exact ⟨cell_of_row W _ 0 _ 34 (0, 0) hh, cell_of_row W _ 1 _ 34 (0, 0) hh, cell_of_row W _ 2 _ 34 (0, 0) hh, (HE.out.fresh (HB1.out.trans (hW.mono HB1.out.size))).head.c0⟩
          have HSz := Lib.hid (fun W (hW : Below W1.heap.size W1 W) => csize (HE.out.fresh (HB1.out.trans (hW.mono HB1.out.size))).disk)
          have X0 := Lib.hid (HX.out _ ((Below.refl _ _).drew))
          clear hp1 hB1 hp
          refine wp_region_held_drew (S := (fun W => W.cell? ⟨p, 0, none⟩ = some (.int .i64 b) ∧ W.cell? ⟨p, 1, none⟩ = some (.int .i64 o) ∧ W.cell? ⟨p, 2, none⟩ = some (.string s) ∧ W.cell? ⟨ge, 0, none⟩ = some (.pointer (some ⟨gd, 0, none⟩)))) (by kernel_rfl) (X0.out) (fun hHeld => ?_)
          refine takeH (i := 0) (some 17) (v := ?_) rfl rfl (by kernel_rfl) (by kernel_rfl) (by kernel_rfl) (fun _ _ _ h => h) (by rfl) ?_ (by assumption) ?_
          rotate_left
          · (intro w hSw; (try dsimp only at hSw); go_simp; try with_reducible rfl)
          simp only [Act.put, List.setIfInBounds_toArray, List.set_cons_zero, List.set_cons_succ]
          refine takeH (i := 1) (some 18) (v := ?_) rfl rfl (by kernel_rfl) (by kernel_rfl) (by kernel_rfl) (fun _ _ _ h => h) (by rfl) ?_ (by assumption) ?_
          rotate_left
          · (intro w hSw; (try dsimp only at hSw); go_simp; try with_reducible rfl)
          simp only [Act.put, List.setIfInBounds_toArray, List.set_cons_zero, List.set_cons_succ]
          refine wpAnyH_ready (rs := [2]) (by kernel_rfl) (by simp) ?_
          refine AllReadyH.cons rfl (fun K hK => ?_) AllReadyH.nil
          go_simp
          refine (HR.out _).mono ?_
          rintro e w2 ⟨rfl, hb2⟩
          have HB2 : Hid (Below W1.heap.size W1 w2) := ((Below.refl _ _).drew).trans hb2
          clear hb2
          refine hK _ _ (HX.out _ HB2.out) (fun hHeld => ?_)
          clear hK K
          try simp only [Act.put, List.setIfInBounds_toArray, List.set_cons_zero, List.set_cons_succ]
          refine takeH (i := 3) (some 20) (v := ?_) rfl rfl (by kernel_rfl) (by kernel_rfl) (by kernel_rfl) (fun _ _ _ h => h) (by rfl) ?_ (by assumption) ?_
          rotate_left
          · (intro w hSw; (try dsimp only at hSw); go_simp; try with_reducible rfl)
          simp only [Act.put, List.setIfInBounds_toArray, List.set_cons_zero, List.set_cons_succ]
          refine takeH (i := 4) (some 21) (v := ?_) rfl rfl (by kernel_rfl) (by kernel_rfl) (by kernel_rfl) (fun _ _ _ h => h) (by rfl) ?_ (by assumption) ?_
          rotate_left
          · (intro w hSw; (try dsimp only at hSw); go_simp; try with_reducible rfl)
          simp only [Act.put, List.setIfInBounds_toArray, List.set_cons_zero, List.set_cons_succ]
          refine takeH (i := 5) (some 22) (v := ?_) rfl rfl (by kernel_rfl) (by kernel_rfl) (by kernel_rfl) (fun _ _ _ h => h) (by rfl) ?_ (by assumption) ?_
          rotate_left
          · (intro w hSw; (try dsimp only at hSw); go_simp; try with_reducible rfl)
          simp only [Act.put, List.setIfInBounds_toArray, List.set_cons_zero, List.set_cons_succ]
          refine takeH (i := 6) (some 23) (v := ?_) rfl rfl (by kernel_rfl) (by kernel_rfl) (by kernel_rfl) (fun _ _ _ h => h) (by rfl) ?_ (by assumption) ?_
          rotate_left
          · (intro w hSw; (try dsimp only at hSw); go_simp; try with_reducible rfl)
          simp only [Act.put, List.setIfInBounds_toArray, List.set_cons_zero, List.set_cons_succ]
          refine takeH (i := 7) (some 24) (v := ?_) rfl rfl (by kernel_rfl) (by kernel_rfl) (by kernel_rfl) (fun _ _ _ h => h) (by rfl) ?_ (by assumption) ?_
          rotate_left
          · (intro w hSw; (try dsimp only at hSw); go_simp; try with_reducible rfl)
          simp only [Act.put, List.setIfInBounds_toArray, List.set_cons_zero, List.set_cons_succ]
          refine takeH (i := 8) (some 25) (v := ?_) rfl rfl (by kernel_rfl) (by kernel_rfl) (by kernel_rfl) (fun _ _ _ h => h) (by rfl) ?_ (by assumption) ?_
          rotate_left
          · (intro w hSw; (try dsimp only at hSw); go_simp; try with_reducible rfl)
          simp only [Act.put, List.setIfInBounds_toArray, List.set_cons_zero, List.set_cons_succ]
          refine takeH (i := 9) (some 26) (v := ?_) rfl rfl (by kernel_rfl) (by kernel_rfl) (by kernel_rfl) (fun _ _ _ h => h) (by rfl) ?_ (by assumption) ?_
          rotate_left
          · (intro w hSw; (try dsimp only at hSw); go_simp; try with_reducible rfl)
          simp only [Act.put, List.setIfInBounds_toArray, List.set_cons_zero, List.set_cons_succ]
          refine takeH (i := 10) (some 27) (v := ?_) rfl rfl (by kernel_rfl) (by kernel_rfl) (by kernel_rfl) (fun _ _ _ h => h) (by rfl) ?_ (by assumption) ?_
          rotate_left
          · (intro w hSw; (try dsimp only at hSw); go_simp; try with_reducible rfl)
          simp only [Act.put, List.setIfInBounds_toArray, List.set_cons_zero, List.set_cons_succ]
          refine takeH (i := 11) (some 28) (v := ?_) rfl rfl (by kernel_rfl) (by kernel_rfl) (by kernel_rfl) (fun _ _ _ h => h) (by rfl) ?_ (by assumption) ?_
          rotate_left
          · (intro w hSw; (try dsimp only at hSw); go_simp; try with_reducible rfl)
          simp only [Act.put, List.setIfInBounds_toArray, List.set_cons_zero, List.set_cons_succ]
          refine wpAnyH_ready (rs := [12]) (by kernel_rfl) (by simp) ?_
          refine AllReadyH.cons rfl (fun K hK => ?_) AllReadyH.nil
          go_simp
          refine (HSz.out _ (HB2.out)).mono ?_
          rintro e w3 ⟨rfl, rfl⟩
          refine hK _ _ (HX.out _ HB2.out) (fun hHeld => ?_)
          clear hK K
          try simp only [Act.put, List.setIfInBounds_toArray, List.set_cons_zero, List.set_cons_succ]
          refine takeH (i := 13) (some 30) (v := ?_) rfl rfl (by kernel_rfl) (by kernel_rfl) (by kernel_rfl) (fun _ _ _ h => h) (by rfl) ?_ (by assumption) ?_
          rotate_left
          · (intro w hSw; (try dsimp only at hSw); go_simp; try with_reducible rfl)
          simp only [Act.put, List.setIfInBounds_toArray, List.set_cons_zero, List.set_cons_succ]
          refine takeH (i := 14) (some 31) (v := ?_) rfl rfl (by kernel_rfl) (by kernel_rfl) (by kernel_rfl) (fun _ _ _ h => h) (by rfl) ?_ (by assumption) ?_
          rotate_left
          · (intro w hSw; (try dsimp only at hSw); go_simp; try with_reducible rfl)
          simp only [Act.put, List.setIfInBounds_toArray, List.set_cons_zero, List.set_cons_succ]
          refine wpAnyH_done (by kernel_rfl) ?_ _
          go_wp2
          go_roundw
          case rel => exact ⟨j + 1, by omega, by go_num, HB1.out.trans (HB2.out.mono HB1.out.size), Hn2.out⟩
          case measure => simp [intOf]; omega
    · obtain rfl : j = its.length := by omega
      have hlti : ¬ (its.length : Int) < (its.length : Int) := by omega
      have HF0 := Lib.hid (form_none hno.out)
      clear hno hB
      go_wp2
      go_loopw [35] (fun q wr => ∃ j : Nat, j ≤ its.length ∧ q = .int .i64 j ∧ Below w.heap.size w wr ∧ Hid (∀ t, t < j → badDeps k t (itN its t) = false)) (fun q _ => its.length - (intOf q).toNat)
      case atStart => exact ⟨0, Nat.zero_le _, rfl, HB.out, fun t ht => absurd ht (by omega)⟩
      case round =>
        obtain ⟨j, hj, rfl, hB, hno⟩ := hrel
        rename World => wr
        have HBr := Lib.hid hB
        have hsz := hB.size
        by_cases hlt : j < its.length
        · have hlti : (j : Int) < (its.length : Int) := by omega
          have hj0 : (0 : Int) ≤ (j : Int) := by omega
          obtain ⟨ib, io, Ak, ck, rfl, hib, _, hx⟩ := (HI.out.fresh hB).at_ hlt
          obtain ⟨c0, c1, c2, c3, hints⟩ := hx
          have hsm := HSm.out _ (itN_mem hlt)
          have Hat : Hid (∀ m, j < its.length → ∀ (hm : m < (itN its j).d.length), badDep k j (itN its j).d[m] = true → badAll k its = true) := fun m => @badAll_at k its j m
          have Hn1 : Hid (badDeps k j (itN its j) = false → ∀ t, t < j + 1 → badDeps k t (itN its t) = false) := fun h t ht => by
            rcases Nat.lt_or_ge t j with q | q
            · exact hno.out t q
            · obtain rfl : t = j := by omega
              exact h
          have HIn := Lib.hid hints
          have HSj := Lib.hid hsm
          have hdl := hsm.2.1
          obtain ⟨dl, hdl2⟩ : ∃ dl, dl = (itN its j).d.length := ⟨_, rfl⟩
          have Hdl := Lib.hid hdl2
          rw [← hdl2] at c3 hdl
          clear hdl2 hints hsm hB
          generalize (itN its j).p.b = b at c0
          generalize (itN its j).p.o = o at c1
          generalize (itN its j).p.s = s at c2
          have HBa : Hid (Below wr.heap.size wr (wr.alloc (.cells #[.int .i64 b, .int .i64 o, .string s, .slice Ak dl ck] 34))) := (Below.refl _ _).alloc (Nat.le_refl _) _
          go_wp2
          go_loopw [43, 10] (fun q _ wi => ∃ m : Nat, m ≤ dl ∧ q = .int .i64 m ∧ Below (wr.heap.size + 1) (wr.alloc (.cells #[.int .i64 b, .int .i64 o, .string s, .slice Ak dl ck] 34)) wi ∧ Hid (∀ t (ht : t < (itN its j).d.length), t < m → badDep k j (itN its j).d[t] = false)) (fun q _ _ => dl - (intOf q).toNat)
          case atStart => exact ⟨0, Nat.zero_le _, rfl, Below.refl _ _, fun t _ ht => absurd ht (by omega)⟩
          case round =>
            obtain ⟨m, hm, rfl, hBi, hall⟩ := hrel
            rename World => wi
            have HBi : Hid (Below wr.heap.size wr wi) := HBa.out.trans (hBi.mono (by omega))
            have HBj := Lib.hid hBi
            by_cases hmd : m < dl
            · have hmi : (m : Int) < (dl : Int) := by omega
              have hm0 : (0 : Int) ≤ (m : Int) := by omega
              have hml : m < (itN its j).d.length := by rw [← Hdl.out]; exact hmd
              obtain ⟨db, doff, rfl, hdb, _, hdc⟩ := (HIn.out.keep (w' := wi) (F' := F) (G := fun _ => False) (Kept.fresh HBi.out) (fun _ q => q.elim) (fun _ q => .inl q)) (by rw [← Hdl.out]; omega)
              have e1 := (HE.out.fresh (HBr.out.trans (HBi.out.mono hsz))).head.c1
              have hdcm := hdc m hml
              have hi64 := HSj.out.2.2 _ (List.getElem_mem hml)
              have Hst := Lib.hid (Hat.out m hlt hml)
              have Hnx : Hid (badDep k j (itN its j).d[m] = false → ∀ t (ht : t < (itN its j).d.length), t < m + 1 → badDep k j (itN its j).d[t] = false) := fun h t ht ht2 => by
                by_cases e : t = m
                · subst e; exact h
                · exact hall.out t ht (by omega)
              generalize (itN its j).d[m] = v at hdcm hi64 Hst Hnx
              have HPl := Lib.hid (fun W => place_any v hi64 W)
              clear hdc hBi
              by_cases h1 : k ≤ v
              · have Hbad : Hid (refusesE n k l.length its = 2) := by unfold Hid refusesE; rw [HF0.out, Hst.out (by unfold badDep; rw [decide_eq_true h1]; rfl)]; rfl
                clear Hst Hnx
                go_wp2
                go_ret
                rw [Hbad.out]
                exact ⟨rfl, HBr.out.trans (HBi.out.mono hsz)⟩
              · have h1' : v < k := by omega
                by_cases h2 : (j : Int) ≤ -1 - v
                · have Hbad : Hid (refusesE n k l.length its = 2) := by unfold Hid refusesE; rw [HF0.out, Hst.out (by unfold badDep; rw [decide_eq_false h1, decide_eq_true h2]; rfl)]; rfl
                  clear Hst Hnx h1
                  go_wp2_with (go_at_call 62; refine (HPl.out _).mono ?_; rintro e w5 ⟨rfl, rfl⟩)
                  go_ret
                  rw [Hbad.out]
                  exact ⟨rfl, HBr.out.trans (HBi.out.mono hsz)⟩
                · have Hn2 := Lib.hid (Hnx.out (by unfold badDep; rw [decide_eq_false h1, decide_eq_false h2]; rfl))
                  have h2' : -1 - v < (j : Int) := by omega
                  clear Hst Hnx h1 h2
                  go_wp2_with (go_at_call 62; refine (HPl.out _).mono ?_; rintro e w5 ⟨rfl, rfl⟩)
                  go_roundw
                  case rel => exact ⟨m + 1, by omega, by go_num, HBj.out, Hn2.out⟩
                  case measure => simp [intOf]; omega
            · obtain rfl : m = dl := by omega
              have hmi : ¬ (m : Int) < (m : Int) := by omega
              have Hn2 := Lib.hid (Hn1.out (by
                unfold badDeps
                rw [List.any_eq_false]
                intro y hy
                obtain ⟨t, ht, rfl⟩ := List.mem_iff_getElem.1 hy
                have := hall.out t ht (by rw [Hdl.out]; exact ht)
                simp [this]))
              clear hall hBi
              go_wp2
              go_roundw
              case rel => exact ⟨j + 1, by omega, by go_num, HBr.out.trans (HBi.out.mono hsz), Hn2.out⟩
              case measure => simp [intOf]; omega
        · obtain rfl : j = its.length := by omega
          have hlti : ¬ (its.length : Int) < (its.length : Int) := by omega
          have HA0 := Lib.hid (badAll_none hno.out)
          have e2 := (HE.out.fresh hB).head.c2
          have hgr := (HE.out.fresh hB).head.lt
          clear hno hB
          by_cases hfl : 200 < its.length + l.length
          · have Hbad : Hid (refusesE n k l.length its = 11) := by unfold Hid refusesE; rw [HF0.out, HA0.out]; simp [hfl]
            have hq : (200 : Int) - (l.length : Int) < (its.length : Int) := by omega
            clear hfl
            go_wp2
            go_ret
            rw [Hbad.out]
            exact ⟨rfl, HBr.out⟩
          · have Hbad : Hid (refusesE n k l.length its = 0) := by unfold Hid refusesE; rw [HF0.out, HA0.out]; simp [hfl]
            have hq : (its.length : Int) ≤ (200 : Int) - (l.length : Int) := by omega
            clear hfl
            go_wp2
            go_ret
            rw [Hbad.out]
            exact ⟨rfl, HBr.out⟩
end Go.Proofs.Ytegacggkdjgdiaa
