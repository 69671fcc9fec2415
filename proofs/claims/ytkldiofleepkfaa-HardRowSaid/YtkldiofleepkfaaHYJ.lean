/- One patch more: add. -/
import Derived.Test.YtkldiofleepkfaaHY1
set_option linter.unusedVariables false
set_option linter.unusedSimpArgs false
namespace Go.Proofs.Ytkldiofleepkfaa.Hd
open Go.RowKit
open Go.Maps (Keyed)
set_option maxRecDepth 100000 in
set_option maxHeartbeats 4000000 in
theorem add_join {w : World} {g gd n cc : Nat} {S : Nat → Bk} {k jo id : Int} {l : List Hw} {sent : List Int} {m : Lay} {Fd : Nat → Prop} (h : HAt w g gd n S cc k jo id l sent m Fd) (hcc : cc ≤ 99999) (hk : k < 1000000) (hl : l.length < 200) (hjo : 0 ≤ jo ∧ jo ≤ 1000000) (hid : 0 ≤ id ∧ id ≤ 1000000) (Ax : Option Addr) (cx : Nat) (x : It) (hI : IntsF w (footH g l m Fd) Ax x.d) (hs : x.small) (hr : x.p.right = true) (hb : x.p.b < n)
    (first : Int) (hf0 : 0 ≤ first) (hf1 : first ≤ 1000000) (hd : ∀ y ∈ x.d, -1000 ≤ y)
    (hnid : ¬ (ahH l (x.d.map (depN first)) x.p = [] ∧ idleB (blkH S l x.p.b) x.p = true)) (hj : joinsH l sent x.p.b (ahH l (x.d.map (depN first)) x.p)) :
    Calls Try.prog 20 #[.pointer (some ⟨g, 0, none⟩), ItemV x Ax cx, .int .i64 first] w fun e w' => e = .returned (.tuple #[]) ∧ Went w w' (footH g l m Fd) (Eng w' g n S (cc + 1) (k + 1) (jo + 1) id (addH l sent k x.p (ahH l (x.d.map (depN first)) x.p)) sent) := by
  obtain ⟨ah, hah⟩ : ∃ ah, ah = ahH l (x.d.map (depN first)) x.p := ⟨_, rfl⟩
  have hlo := h.lo
  have hk0 := h.k0
  have hok := h.ok
  have hahw : ∀ d ∈ ah, hasN l d = true := fun d hd => by rw [hah] at hd; exact ahH_waits hd
  have hahl : ah.length ≤ 200 := by rw [hah]; have := ahH_len l (x.d.map (depN first)) x.p; omega
  have hahr : ah.Pairwise (· < ·) := by rw [hah]; exact ahH_rise h.ok.asc _ _
  have hah0 : ∀ d ∈ ah, 0 ≤ d := fun d hd => by
    obtain ⟨y, hy, rfl⟩ := hasN_iff.1 (hahw d hd)
    exact (h.lo y hy).1
  have hb0 : 0 ≤ x.p.b := (Pt.right_out hr).1
  have hge := h.glt
  have e1 := h.c1
  have f1 := h.free 1
  have HAl : Hid (∀ W1, W1 = (w.setCell ⟨g, 1, none⟩ (.int .i64 (k + 1))).alloc (.cells #[.int .i64 x.p.b, .int .i64 x.p.o, .string x.p.s, .slice Ax x.d.length cx] 35) →
      HAt W1 g gd n S cc (k + 1) jo id l sent m Fd ∧ Kept w W1 (fun b => b = g) ∧ W1.heap[w.heap.size]? = some (.cells #[.int .i64 x.p.b, .int .i64 x.p.o, .string x.p.s, .slice Ax x.d.length cx] 35 (0, 0)) ∧ W1.heap.size = w.heap.size + 1) := fun W1 hW => by
    have k1 : Kept w (w.setCell ⟨g, 1, none⟩ (.int .i64 (k + 1))) (fun b => b = g) := ⟨rfl, rfl, rfl, by simp, fun b _ hn => heap_setCell_other w ⟨g, 1, none⟩ b _ hn⟩
    have h1 : HAt (w.setCell ⟨g, 1, none⟩ (.int .i64 (k + 1))) g gd n S cc (k + 1) jo id l sent m Fd := h.headed k1 (by have := heap_setCell_same w g 1 _ 45 (.int .i64 (k + 1)) h.head; simpa [hcs] using this) (by omega)
    have hb1 := below_alloc1 (w.setCell ⟨g, 1, none⟩ (.int .i64 (k + 1))) (.cells #[.int .i64 x.p.b, .int .i64 x.p.o, .string x.p.s, .slice Ax x.d.length cx] 35)
    rw [hW]
    refine ⟨h1.fresh hb1, k1.trans (Kept.fresh (S := fun b => b = g) hb1) (fun b q => .inl q), ?_, by simp⟩
    have := heap_alloc_new (w.setCell ⟨g, 1, none⟩ (.int .i64 (k + 1))) (.cells #[.int .i64 x.p.b, .int .i64 x.p.o, .string x.p.s, .slice Ax x.d.length cx] 35)
    simpa using this
  have HAh : Hid (∀ W1, HAt W1 g gd n S cc (k + 1) jo id l sent m Fd → Kept w W1 (fun b => b = g) → IntsF W1 (footH g l m Fd) Ax x.d → Calls Try.prog 38 #[.pointer (some ⟨g, 0, none⟩), ItemV x Ax cx, .int .i64 first] W1 (Says W1 ah)) := fun W1 h1 _ hI1 => by
    rw [hah]
    exact ahead_any h1 (by omega) (by omega) (footH g l m Fd) Ax cx x hI1 hs hr first hf0 hf1 hd
  have HH := Lib.hid h
  have HI := Lib.hid hI
  have HRt := Lib.hid hr
  obtain ⟨⟨b, o, s⟩, ds⟩ := x
  unfold ItemV at *
  dsimp only at *
  obtain ⟨bi, rfl⟩ := Int.eq_ofNat_of_zero_le hb0
  have hbn : bi < n := by omega
  have HOn : Hid (∀ W1 W, HAt W1 g gd n S cc (k + 1) jo id l sent m Fd → Below W1.heap.size W1 W → Calls Try.prog 29 #[.pointer (some ⟨g, 0, none⟩), .int .i64 (bi : Int)] W fun e w' => ∃ A c, e = .returned (.slice A (onU l bi).length c) ∧ w'.ownsRow W.heap.size 59 1 (.slice A (onU l bi).length c) (onU l bi).length (ptrsU m.up (onU l bi)) ∧ Below W.heap.size W w') := fun W1 W h1 hW => on_any (h1.fresh hW) (by omega) _
  have HBh : Hid (∀ W1 W B A c, HAt W1 g gd n S cc (k + 1) jo id l sent m Fd → Below W1.heap.size W1 W → W.ownsRow B 59 1 (.slice A (onU l bi).length c) (onU l bi).length (ptrsU m.up (onU l bi)) → Calls Try.prog 17 #[.pointer (some ⟨g, 0, none⟩), .int .i64 (bi : Int), .slice A (onU l bi).length c] W (Gives W (blkH S l bi))) := fun W1 W B A c h1 hW hr => by
    have := behind_any (h1.fresh hW) hbn B A c (onU l bi) hr (fun u hu => ((mem_onU' hok.asc).1 hu).1) (by have := on_len (l := l) bi; omega) (by have := setU_len hok (onU_rises hok.asc bi) (fun u hu => hu); omega)
    unfold blkH
    rw [Int.toNat_natCast]
    exact this
  have HId : Hid (∀ (W : World) A c, 32 ≤ c → Bts W W.heap.size A (blkH S l bi) → (blkH S l bi).length = 32 → Calls Try.prog 39 #[.slice A 32 c, .agg #[.int .i64 (bi : Int), .int .i64 o, .string s]] W fun e w' => e = .returned (.bool (idleB (blkH S l bi) ⟨bi, o, s⟩)) ∧ Below W.heap.size W w') := fun W A c hc hb hl => idle_yes A c _ ⟨bi, o, s⟩ W hb hl hc hr
  rw [← hah] at hj hnid ⊢
  obtain ⟨u0, hu0⟩ : ∃ u0, u0 = lastU l bi := ⟨_, rfl⟩
  have huu : u0 ∈ units l := by rw [hu0]; exact last_unit hok hj.1
  have hus : u0 ∉ sent := by rw [hu0]; exact hj.2.1
  have hadd : addH l sent k ⟨bi, o, s⟩ ah = l ++ [⟨k, ⟨bi, o, s⟩, ah, u0⟩] := by
    unfold addH
    rcases homeU_is l sent k bi ah with ⟨q, _⟩ | ⟨_, q⟩
    · rw [hu0, ← q]
    · exact absurd hj q
  have hok2 : Ok (l ++ [⟨k, ⟨bi, o, s⟩, ah, u0⟩]) := by rw [← hadd]; exact hok.added hlo _ hahr (fun d hd => hasN_iff.1 (hahw d hd))
  have hsok2 : SentOk (l ++ [⟨k, ⟨bi, o, s⟩, ah, u0⟩]) sent := by rw [← hadd]; exact h.sok.added hok hlo _ _
  rw [hadd]
  have hku : u0 ≠ k := fun e => by
    obtain ⟨y, hy, e1, _⟩ := mem_units.1 huu
    have := (hlo y hy).2; omega
  have HHm : Hid (∀ W1 W A c, HAt W1 g gd n S cc (k + 1) jo id l sent m Fd → Below W1.heap.size W1 W → W.ownsRow 0 3 1 (.slice A ah.length c) ah.length (intsI ah) → Calls Try.prog 40 #[.pointer (some ⟨g, 0, none⟩), .int .i64 (bi : Int), .slice A ah.length c] W fun e w' => e = .returned (.tuple #[.pointer (some ⟨m.up u0, 0, none⟩), .bool true]) ∧ Below W.heap.size W w') := fun W1 W A c h1 hW hr => by
    refine (home_any (h1.fresh hW) (by omega) (by omega) bi 0 A c ah hr hahw (by omega)).mono ?_
    rintro e w' ⟨hb, ⟨_, _, rfl⟩ | ⟨q, _⟩⟩
    · rw [← hu0]; exact ⟨rfl, hb⟩
    · exact absurd hj q
  have Hok2 := Lib.hid hok2
  have Hsok2 := Lib.hid hsok2
  have Huu := Lib.hid huu
  have Hus := Lib.hid hus
  have Hku := Lib.hid hku
  have Hlo := Lib.hid hlo
  have Hah0 := Lib.hid hah0
  have Hnid := Lib.hid hnid
  have Hr := Lib.hid hr
  have HLn : Hid ((ofU l u0).length ≤ 200) := by have := List.length_filter_le (fun x : Hw => x.u == u0) l; unfold Hid ofU; omega
  obtain ⟨an, han⟩ : ∃ an, an = ah.length := ⟨_, rfl⟩
  have Han := Lib.hid han
  unfold Says at HAh
  rw [← han] at HHm HAh hahl
  generalize ds.length = dl at *
  clear h hah hI hr hnid hj hu0 hus huu hok2 hsok2 hadd hku hlo hah0 hahw hahr han
  go_enter Try.func20, Try.ntmps20
  go_wp2_with fail
  generalize hW1 : (w.setCell ⟨g, 1, none⟩ (.int .i64 (k + 1))).alloc (.cells #[.int .i64 (bi : Int), .int .i64 o, .string s, .slice Ax dl cx] 35) = W1
  obtain ⟨hA1, hk1, hit, hs1⟩ := HAl.out _ hW1.symm
  refine (HAh.out W1 hA1 hk1 (HI.out.keep hk1 (fun b q => .inl q) (fun b q => .inl q))).mono ?_
  rintro e w2 ⟨A2, c2, rfl, hr2, hb2⟩
  have HA1 := Lib.hid hA1
  have HK1 := Lib.hid hk1
  have HB2 := Lib.hid hb2
  have HR2 := Lib.hid hr2
  have Hs1 := Lib.hid hs1
  obtain ⟨p, hp⟩ : ∃ p, p = w.heap.size := ⟨_, rfl⟩
  have Hp := Lib.hid hp
  rw [← hp] at hit ⊢
  have HX : Hid (∀ W, Below W1.heap.size W1 W → W.cell? ⟨p, 0, none⟩ = some (.int .i64 (bi : Int)) ∧ W.cell? ⟨p, 1, none⟩ = some (.int .i64 o) ∧ W.cell? ⟨p, 2, none⟩ = some (.string s)) := fun W hW => by
    have hh := (hW.block _ (Array.getElem?_eq_some_iff.1 hit).1).trans hit
    exact ⟨cell_of_row W _ 0 _ 35 (0, 0) hh, cell_of_row W _ 1 _ 35 (0, 0) hh, cell_of_row W _ 2 _ 35 (0, 0) hh⟩
  have hpW : p < w2.heap.size := by have := hb2.size; have := (Array.getElem?_eq_some_iff.1 hit).1; omega
  clear hW1 hA1 hk1 hb2 hr2 hs1 hit hp
  have HRa : Hid (∀ W, Below w2.heap.size w2 W → W.ownsRow 0 3 1 (.slice A2 an c2) an (intsI ah)) := fun W hW => ((Kept.fresh (S := fun _ => False) hW).row HR2.out (fun _ _ q => q)).mono (Nat.zero_le _)
  by_cases hz : an = 0
  case' pos =>
    have hz1 : ((an : Int) == 0) = true := by simp [hz]
    have hif : idleB (blkH S l bi) ⟨bi, o, s⟩ = false := by
      cases q : idleB (blkH S l bi) ⟨bi, o, s⟩ with
      | false => rfl
      | true => exact absurd ⟨List.eq_nil_of_length_eq_zero (by rw [← Han.out]; exact hz), q⟩ Hnid.out
    rw [hif] at HId
    clear hz hif
    have X2 := Lib.hid (HX.out w2.drew HB2.out.drew)
    go_wp2
    go_region_held3 (fun W => W.cell? ⟨p, 0, none⟩ = some (.int .i64 (bi : Int)) ∧ W.cell? ⟨p, 1, none⟩ = some (.int .i64 o) ∧ W.cell? ⟨p, 2, none⟩ = some (.string s)) (first | (with_reducible exact X2.out) | (with_reducible exact X3.out) | (with_reducible exact X4.out) | (with_reducible exact X5.out))
      (first
        | (go_at_call 29; (with_reducible refine (HOn.out W1 _ HA1.out HB2.out.drew).mono ?_); rintro e w3 ⟨A3, c3, rfl, hr3, hb3⟩; have HB3 : Hid (Below W1.heap.size W1 w3) := HB2.out.drew.trans (hb3.mono HB2.out.size); have HC3 : Hid (Below w2.heap.size w2 w3) := ((Below.refl w2.heap.size w2).drew).trans hb3; have HR3 := Lib.hid hr3; have X3 := Lib.hid (HX.out w3 HB3.out); clear hr3 hb3)
        | (go_at_call 17; (with_reducible refine (HBh.out W1 w3 _ _ _ HA1.out HB3.out HR3.out).mono ?_); rintro e w4 ⟨A4, c4, rfl, q1, q2, q3, q4, hb4⟩; have HB4 : Hid (Below W1.heap.size W1 w4) := HB3.out.trans (hb4.mono HB3.out.size); have HC4 : Hid (Below w2.heap.size w2 w4) := HC3.out.trans (hb4.mono HC3.out.size); have X4 := Lib.hid (HX.out w4 HB4.out); have HI4 := Lib.hid (HId.out w4 A4 c4 q1 q3 q4); clear q1 q2 q3 q4 hb4)
        | (go_at_call 39; (with_reducible refine HI4.out.mono ?_); rintro e w5 ⟨rfl, hb5⟩; have HB5 : Hid (Below W1.heap.size W1 w5) := HB4.out.trans (hb5.mono HB4.out.size); have HC5 : Hid (Below w2.heap.size w2 w5) := HC4.out.trans (hb5.mono HC4.out.size); have X5 := Lib.hid (HX.out w5 HB5.out); clear hb5)
        | fail)
    clear hz1
  case' neg =>
    have hz1 : ((an : Int) == 0) = false := by simp [hz]
    clear hz
    go_wp2
    refine wp_region_held_drew (S := (fun _ => True)) (by kernel_rfl) (trivial) (fun hHeld => ?_)
    refine takeH (i := 0) (some 26) (v := ?_) rfl rfl (by kernel_rfl) (by kernel_rfl) (by kernel_rfl) (fun _ _ _ h => h) (by rfl) ?_ (by assumption) ?_
    rotate_left
    · (intro w hSw; (try dsimp only at hSw); go_simp; try with_reducible rfl)
    simp only [Act.put, List.setIfInBounds_toArray, List.set_cons_zero, List.set_cons_succ]
    refine takeH (i := 1) (some 27) (v := ?_) rfl rfl (by kernel_rfl) (by kernel_rfl) (by kernel_rfl) (fun _ _ _ h => h) (by rfl) ?_ (by assumption) ?_
    rotate_left
    · (intro w hSw; (try dsimp only at hSw); go_simp; try with_reducible rfl)
    simp only [Act.put, List.setIfInBounds_toArray, List.set_cons_zero, List.set_cons_succ]
    refine takeH (i := 2) (some 28) (v := ?_) rfl rfl (by kernel_rfl) (by kernel_rfl) (by kernel_rfl) (fun _ _ _ h => h) (by rfl) ?_ (by assumption) ?_
    rotate_left
    · (intro w hSw; (try dsimp only at hSw); go_simp; try with_reducible rfl)
    simp only [Act.put, List.setIfInBounds_toArray, List.set_cons_zero, List.set_cons_succ]
    refine takeH (i := 3) (some 29) (v := ?_) rfl rfl (by kernel_rfl) (by kernel_rfl) (by kernel_rfl) (fun _ _ _ h => h) (by rfl) ?_ (by assumption) ?_
    rotate_left
    · (intro w hSw; (try dsimp only at hSw); go_simp; try with_reducible rfl)
    simp only [Act.put, List.setIfInBounds_toArray, List.set_cons_zero, List.set_cons_succ]
    refine skipH (i := 4) (some 30) rfl rfl (by kernel_rfl) (by kernel_rfl) (by kernel_rfl) (fun _ _ _ h => h) (by rfl) (by assumption) ?_
    simp only [Act.put, List.setIfInBounds_toArray, List.set_cons_zero, List.set_cons_succ]
    refine skipH (i := 5) (some 31) rfl rfl (by kernel_rfl) (by kernel_rfl) (by kernel_rfl) (fun _ _ _ h => h) (by rfl) (by assumption) ?_
    simp only [Act.put, List.setIfInBounds_toArray, List.set_cons_zero, List.set_cons_succ]
    refine skipH (i := 6) (some 32) rfl rfl (by kernel_rfl) (by kernel_rfl) (by kernel_rfl) (fun _ _ _ h => h) (by rfl) (by assumption) ?_
    simp only [Act.put, List.setIfInBounds_toArray, List.set_cons_zero, List.set_cons_succ]
    refine skipH (i := 7) (some 33) rfl rfl (by kernel_rfl) (by kernel_rfl) (by kernel_rfl) (fun _ _ _ h => h) (by rfl) (by assumption) ?_
    simp only [Act.put, List.setIfInBounds_toArray, List.set_cons_zero, List.set_cons_succ]
    refine skipH (i := 8) (some 34) rfl rfl (by kernel_rfl) (by kernel_rfl) (by kernel_rfl) (fun _ _ _ h => h) (by rfl) (by assumption) ?_
    simp only [Act.put, List.setIfInBounds_toArray, List.set_cons_zero, List.set_cons_succ]
    refine skipH (i := 9) (some 35) rfl rfl (by kernel_rfl) (by kernel_rfl) (by kernel_rfl) (fun _ _ _ h => h) (by rfl) (by assumption) ?_
    simp only [Act.put, List.setIfInBounds_toArray, List.set_cons_zero, List.set_cons_succ]
    refine skipH (i := 10) (some 36) rfl rfl (by kernel_rfl) (by kernel_rfl) (by kernel_rfl) (fun _ _ _ h => h) (by rfl) (by assumption) ?_
    simp only [Act.put, List.setIfInBounds_toArray, List.set_cons_zero, List.set_cons_succ]
    refine skipH (i := 11) (some 37) rfl rfl (by kernel_rfl) (by kernel_rfl) (by kernel_rfl) (fun _ _ _ h => h) (by rfl) (by assumption) ?_
    simp only [Act.put, List.setIfInBounds_toArray, List.set_cons_zero, List.set_cons_succ]
    refine skipH (i := 12) (some 38) rfl rfl (by kernel_rfl) (by kernel_rfl) (by kernel_rfl) (fun _ _ _ h => h) (by rfl) (by assumption) ?_
    simp only [Act.put, List.setIfInBounds_toArray, List.set_cons_zero, List.set_cons_succ]
    refine skipH (i := 13) (some 39) rfl rfl (by kernel_rfl) (by kernel_rfl) (by kernel_rfl) (fun _ _ _ h => h) (by rfl) (by assumption) ?_
    simp only [Act.put, List.setIfInBounds_toArray, List.set_cons_zero, List.set_cons_succ]
    refine skipH (i := 14) (some 40) rfl rfl (by kernel_rfl) (by kernel_rfl) (by kernel_rfl) (fun _ _ _ h => h) (by rfl) (by assumption) ?_
    simp only [Act.put, List.setIfInBounds_toArray, List.set_cons_zero, List.set_cons_succ]
    refine skipH (i := 15) (some 41) rfl rfl (by kernel_rfl) (by kernel_rfl) (by kernel_rfl) (fun _ _ _ h => h) (by rfl) (by assumption) ?_
    simp only [Act.put, List.setIfInBounds_toArray, List.set_cons_zero, List.set_cons_succ]
    refine skipH (i := 16) (some 42) rfl rfl (by kernel_rfl) (by kernel_rfl) (by kernel_rfl) (fun _ _ _ h => h) (by rfl) (by assumption) ?_
    simp only [Act.put, List.setIfInBounds_toArray, List.set_cons_zero, List.set_cons_succ]
    refine takeH (i := 17) (some 43) (v := ?_) rfl rfl (by kernel_rfl) (by kernel_rfl) (by kernel_rfl) (fun _ _ _ h => h) (by rfl) ?_ (by assumption) ?_
    rotate_left
    · (intro w hSw; (try dsimp only at hSw); go_simp; try with_reducible rfl)
    simp only [Act.put, List.setIfInBounds_toArray, List.set_cons_zero, List.set_cons_succ]
    refine wpAnyH_done (by kernel_rfl) ?_ _
    generalize hw5 : w2.drew = w5
    have HB5 : Hid (Below W1.heap.size W1 w5) := by rw [← hw5]; exact HB2.out.drew
    have HC5 : Hid (Below w2.heap.size w2 w5) := by rw [← hw5]; exact (Below.refl w2.heap.size w2).drew
    clear hw5
    clear hz1
  all_goals
    have hpW5 : p < w5.heap.size := Nat.lt_of_lt_of_le hpW HC5.out.size
    obtain ⟨x50, x51, x52⟩ := HX.out w5 HB5.out
    have HRa5 := Lib.hid (HRa.out w5 HC5.out)
    go_wp2_with (go_at_call 40; (with_reducible refine (HHm.out W1 w5 A2 c2 HA1.out HB5.out HRa5.out).mono ?_); rintro e w6 ⟨rfl, hb6⟩; have HB6 := Lib.hid (HB5.out.trans (hb6.mono HB5.out.size)); have HC6 := Lib.hid (HC5.out.trans (hb6.mono HC5.out.size)); have HA6 := Lib.hid (HA1.out.fresh HB6.out); have e2 := HA6.out.c2; have f2 := HA6.out.free 2; have hg6 := HA6.out.glt; clear hb6)
    generalize hW7 : w6.setCell ⟨g, 2, none⟩ (.int .i64 (jo + 1)) = W7
    obtain ⟨ub, hub⟩ : ∃ ub, ub = m.up u0 := ⟨_, rfl⟩
    have Hub := Lib.hid hub
    have hu6 := HA6.out.us u0 Huu.out
    have HUps6 := Lib.hid (HA6.out.ups u0 Huu.out)
    have hcf : sent.contains u0 = false := by simpa using Hus.out
    rw [hcf, ← hub] at hu6
    rw [← hub]
    have K7 : Kept w6 W7 (fun b => b = g) := by rw [← hW7]; exact ⟨rfl, rfl, rfl, by simp, fun b _ hn => heap_setCell_other w6 ⟨g, 2, none⟩ b _ hn⟩
    have hh7 : W7.heap[g]? = some (.cells (hcs gd (k + 1) (jo + 1) id m) 45 (0, 0)) := by rw [← hW7]; have := heap_setCell_same w6 g 2 _ 45 (.int .i64 (jo + 1)) HA6.out.head; simpa [hcs] using this
    have hugne : ub ≠ g := cells_ne hu6 HA6.out.head (by decide)
    have hu7 : W7.heap[ub]? = some (.cells (ucs u0 (ubl l u0) (m.UA u0) (ofU l u0).length (m.UC u0) false) 62 (0, 0)) := by rw [K7.block _ (Array.getElem?_eq_some_iff.1 hu6).1 hugne]; exact hu6
    have hpg : p ≠ g := by have := Hp.out; omega
    have hp6 : p < w6.heap.size := Nat.lt_of_lt_of_le hpW HC6.out.size
    have hp7 : p < W7.heap.size := Nat.lt_of_lt_of_le hp6 K7.size
    have hub7 : ub < W7.heap.size := (Array.getElem?_eq_some_iff.1 hu7).1
    have X7 : Hid (W7.cell? ⟨p, 0, none⟩ = some (.int .i64 (bi : Int)) ∧ W7.cell? ⟨p, 1, none⟩ = some (.int .i64 o) ∧ W7.cell? ⟨p, 2, none⟩ = some (.string s) ∧ W7.cell? ⟨ub, 0, none⟩ = some (.int .i64 u0)) := by
      obtain ⟨q0, q1, q2⟩ := HX.out w6 HB6.out
      have e : ∀ i, W7.cell? ⟨p, i, none⟩ = w6.cell? ⟨p, i, none⟩ := fun i => K7.cell (a := ⟨p, i, none⟩) hp6 hpg
      exact ⟨(e 0).trans q0, (e 1).trans q1, (e 2).trans q2, cell_of_row W7 ub 0 _ 62 (0, 0) hu7⟩
    have X7d : Hid (W7.drew.cell? ⟨p, 0, none⟩ = some (.int .i64 (bi : Int)) ∧ W7.drew.cell? ⟨p, 1, none⟩ = some (.int .i64 o) ∧ W7.drew.cell? ⟨p, 2, none⟩ = some (.string s) ∧ W7.drew.cell? ⟨ub, 0, none⟩ = some (.int .i64 u0)) := X7.out
    obtain ⟨y, hy⟩ : ∃ y : Hw, y = ⟨k, ⟨bi, o, s⟩, ah, u0⟩ := ⟨_, rfl⟩
    have Hy := Lib.hid hy
    obtain ⟨UA, hUA⟩ : ∃ UA, UA = m.UA u0 := ⟨_, rfl⟩
    obtain ⟨UC, hUC⟩ : ∃ UC, UC = m.UC u0 := ⟨_, rfl⟩
    have hblk : ubl l u0 = bi := by
      have h1 := Hok2.out.head ⟨k, ⟨bi, o, s⟩, ah, u0⟩ (by simp)
      obtain ⟨z, hz, z1, z2, z3⟩ := h1
      dsimp only at z1 z2 z3
      rcases List.mem_append.1 hz with q | q
      · rw [← z1, ubl_at hok.asc q]; exact z3
      · rw [List.mem_singleton] at q; subst q; exact absurd z1.symm Hku.out
    have HM : Hid (Mid w6 W7 g gd n S cc k jo (jo + 1) id l sent m Fd y ub UA UC A2 c2) := by
      rw [hy]
      refine ⟨HA6.out, K7.more (fun b q => .inl (.inl q)), hh7, ?_, ?_, ?_, ?_, .inl ⟨Huu.out, hub, by rw [hUA]⟩⟩
      · have h1 := (HA6.out.umap.keep K7 (fun e => HA6.out.umap.not_cells HA6.out.head e.symm)).more (Nat.le_succ cc)
        have h2 : units (l ++ [⟨k, ⟨bi, o, s⟩, ah, u0⟩]) = units l := units_snoc_old (fun e => Hku.out e.symm)
        rw [h2]
        exact h1.congr (fun _ => Iff.rfl) (fun z _ => by
          by_cases e : z = u0
          · subst e; rw [fset_at]; exact hub
          · exact fset_ne _ _ e)
      · rw [hUA, hUC, ← hblk]; exact hu7
      · rw [hUA, hUC]
        exact K7.row HUps6.out (fun b hb q => by
          obtain ⟨cs, e⟩ := row_cells HUps6.out ((own_eq _ _ _).symm.trans hb)
          exact cells_ne e HA6.out.head (by decide) q)
      · have h1 := HRa.out w6 HC6.out
        rw [Han.out] at h1
        exact K7.row h1 (fun b hb q => by
          obtain ⟨cs, e⟩ := row_cells h1 ((own_eq _ _ _).symm.trans hb)
          exact cells_ne e HA6.out.head (by decide) q)
    obtain ⟨j0, hj0, hj1, hj2, hj3⟩ := info_parts infoPW
    clear hW7 K7 hh7 hu7 hu6 hub hcf e2 f2 x50 x51 x52 hy hUA hUC hblk
    have X8 : Hid ((W7.alloc (.cells #[.int .i64 k, .int .i64 (bi : Int), .int .i64 o, .string s, .slice A2 an c2, .int .i64 u0] 84)).drew.cell? ⟨p, 0, none⟩ = some (.int .i64 (bi : Int)) ∧ (W7.alloc (.cells #[.int .i64 k, .int .i64 (bi : Int), .int .i64 o, .string s, .slice A2 an c2, .int .i64 u0] 84)).drew.cell? ⟨p, 1, none⟩ = some (.int .i64 o) ∧ (W7.alloc (.cells #[.int .i64 k, .int .i64 (bi : Int), .int .i64 o, .string s, .slice A2 an c2, .int .i64 u0] 84)).drew.cell? ⟨p, 2, none⟩ = some (.string s) ∧ (W7.alloc (.cells #[.int .i64 k, .int .i64 (bi : Int), .int .i64 o, .string s, .slice A2 an c2, .int .i64 u0] 84)).drew.cell? ⟨ub, 0, none⟩ = some (.int .i64 u0)) := by
      have e : ∀ q : Addr, q.block < W7.heap.size → (W7.alloc (.cells #[.int .i64 k, .int .i64 (bi : Int), .int .i64 o, .string s, .slice A2 an c2, .int .i64 u0] 84)).drew.cell? q = W7.cell? q := fun q hq => (below_alloc1 W7 (.cells #[.int .i64 k, .int .i64 (bi : Int), .int .i64 o, .string s, .slice A2 an c2, .int .i64 u0] 84)).cell hq
      exact ⟨(e ⟨p, 0, none⟩ hp7).trans X7.out.1, (e ⟨p, 1, none⟩ hp7).trans X7.out.2.1, (e ⟨p, 2, none⟩ hp7).trans X7.out.2.2.1, (e ⟨ub, 0, none⟩ hub7).trans X7.out.2.2.2⟩
    go_region_held3 (fun W => W.cell? ⟨p, 0, none⟩ = some (.int .i64 (bi : Int)) ∧ W.cell? ⟨p, 1, none⟩ = some (.int .i64 o) ∧ W.cell? ⟨p, 2, none⟩ = some (.string s) ∧ W.cell? ⟨ub, 0, none⟩ = some (.int .i64 u0)) (first | (with_reducible exact X7d.out) | (with_reducible exact X8.out)) (fail)
    generalize hW8 : (W7.alloc (.cells #[.int .i64 k, .int .i64 (bi : Int), .int .i64 o, .string s, .slice A2 an c2, .int .i64 u0] 84)).drew = W8
    have HW8 : Hid (W8 = (W7.alloc (.cells (y.cs A2 c2) 84)).drew) := by rw [← hW8, Hy.out, Han.out]; rfl
    have h8 := HM.out.at8 HW8.out
    have hyu : y.u = u0 := by rw [Hy.out]
    rw [hyu] at h8
    obtain ⟨u28, hul8, hs8, hr8, _, _⟩ := h8
    have HR8 := Lib.hid hr8
    have h9 : Hid (∀ (w9 : World) (o : Obj), (W8.alloc o).grownBy w9 (Value.slice UA (ofU l u0).length UC).ownBlock → w9.cell? ⟨ub, 2, none⟩ = some (.slice UA (ofU l u0).length UC) ∧ w9.frozen? ⟨ub, 2, none⟩ = false ∧ ub < w9.heap.size ∧ w9.cell? ⟨g, 4, none⟩ = some (.map (some m.gw)) ∧ g < w9.heap.size ∧ ub ≠ g ∧ ∃ D : DataW Value, (∀ v, (w9.setCell ⟨ub, 2, none⟩ v).ownsMap Try.prog 3 RV m.gw cc D) ∧ (∀ z, Maps.has D (.int .i64 z) = true ↔ z ∈ nums l) ∧ ∀ z ∈ nums l, ∀ q, D.atKey (.int .i64 z) q = .held (ptr (m.wp z))) := fun w9 o hg => by have h := HM.out.at9 HW8.out (o := o) (w9 := w9) (by rw [hyu]; exact hg); rw [hyu] at h; exact h
    have HC : Hid (cc < maxLen) := by unfold Hid maxLen; omega
    have HK := Lib.hid (keyI (show WfI k by unfold WfI; omega))
    have hln := HLn.out
    obtain ⟨bw, hbw⟩ : ∃ bw, bw = W7.heap.size := ⟨_, rfl⟩
    have Hbw := Lib.hid hbw
    have Hsr : Hid (∀ ad, some (⟨W8.heap.size, 0, none⟩ : Addr) = some ad → ∀ j u, ([.pointer (some ⟨bw, 0, none⟩)] : List Value)[j]? = some u → (W8.alloc (.cells #[.pointer (some ⟨bw, 0, none⟩)] 82)).cell? (ad.add j) = some u) := fun ad e j u hu => by
      cases e
      exact World.news_of_block (heap_alloc_new W8 _) j u hu
    rw [← hbw]
    clear hW8 hs8 hr8 hyu hbw
    go_wp2_with (first
      | (at_builtin; go_loud (refine wpList_append_src rfl (.tmp 94) (.tmp 96) 60 rfl 0 82 j0 _ 1 8 Try.underlying60 hj0 hj1 hj2 hj3 rfl (by decide) (.slice UA (ofU l u0).length UC) (ofU l u0).length (ptrsW m l u0) rfl (HR8.out.alloc _) (some ⟨W8.heap.size, 0, none⟩) 1 1 [.pointer (some ⟨bw, 0, none⟩)] rfl rfl (by simpa using Hsr.out) (fun e => by cases e) (by intro u hu; rw [List.mem_singleton] at hu; rw [hu]; rfl) (by unfold maxLen; omega) (by omega) (by simp) ((ofU l u0).length + 1) rfl ?_; intro A9 c9 w9 ho9 hg9 hor9; have HO9 := Lib.hid ho9; have HG9 := Lib.hid hg9; have HOr := Lib.hid hor9; obtain ⟨u9, f9, hub9, g49, hgl9, hne9, D, hD9, hd2, hd3⟩ := h9.out w9 _ hg9; have HD9 := Lib.hid hD9; have Hd2 := Lib.hid hd2; have Hd3 := Lib.hid hd3; clear ho9 hg9 hor9 hD9 hd2 hd3))
      | (at_mapUpdate; refine wpList_mapUpdate_own _ rfl _ _ _ 42 rfl 3 82 lawI Try.underlying42 RV m.gw cc D rfl (HD9.out _) HC.out _ _ (.int .i64 k) rfl rfl HK.out (.held (.pointer (some ⟨bw, 0, none⟩))) [] rfl ?_; intro w11 h11 hg11; have H11 := Lib.hid h11; have HG11 := Lib.hid hg11; clear h11 hg11))
    go_end0
    obtain rfl := Hbw.out
    have hfin := HM.out.done Hlo.out hk0 (by rw [Hy.out]) (by rw [Hy.out]; exact Hok2.out) (by rw [Hy.out]; exact Hsok2.out) (by rw [Hy.out]; exact HRt.out) (by rw [Hy.out]; exact hb) (by rw [Hy.out]; exact Hah0.out) hl (by rw [Hy.out]; exact Hus.out) (by rw [Hy.out]; exact .inr ⟨Hku.out, Huu.out⟩) HW8.out (by rw [Hy.out]; exact HG9.out) (by rw [Hy.out]; exact HO9.out) (by rw [Hy.out]; exact HOr.out) (by rw [Hy.out]; exact HD9.out _) Hd2.out Hd3.out H11.out (by rw [Hy.out]; exact HG11.out)
    rw [Hy.out] at hfin
    obtain ⟨F', hE, hk2, hf2⟩ := hfin
    obtain ⟨t1, t2⟩ := went_trans (F := footH g l m Fd) ((HK1.out.trans (Kept.fresh (S := fun b => b = g) HB6.out) (fun b q => .inl q)).more (fun b q => .inl (.inl q))) (fun b q => .inl q) hk2 hf2
    exact ⟨rfl, F', hE, t1, t2⟩
end Go.Proofs.Ytkldiofleepkfaa.Hd
