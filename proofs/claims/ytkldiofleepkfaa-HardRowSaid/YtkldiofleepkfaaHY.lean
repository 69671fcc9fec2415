/- One patch more: add. -/
import Derived.Test.YtkldiofleepkfaaHY0
set_option linter.unusedVariables false
set_option linter.unusedSimpArgs false
namespace Go.Proofs.Ytkldiofleepkfaa.Hd
open Go.RowKit
open Go.Maps (Keyed)
/-- the bytes of a block, with all that waits on it -/
def blkH (S : Nat → Bk) (l : List Hw) (b : Int) : List Int := putH (S b.toNat).s (setU l (onU l b))
def idleB (b : List Int) (p : Pt) : Bool := decide ((undoP b p).s = p.s)
theorem PMap.put {w w' : World} {mb c c' : Nat} {ks : List Int} {f : Int → Nat} {D : DataW Value} (h1 : w.ownsMap Try.prog 3 RV mb c D) (m2 : ∀ x, Maps.has D (.int .i64 x) = true ↔ x ∈ ks) (m3 : ∀ x ∈ ks, ∀ z, D.atKey (.int .i64 x) z = .held (ptr (f x))) {k : Int} {b : Nat}
    (h : w'.ownsMap Try.prog 3 RV mb c' (D.put (.int .i64 k) (.held (ptr b)))) (hk : k ∉ ks) : PMap w' mb c' (ks ++ [k]) (fset f k b) := by
  refine ⟨_, h, fun x => ?_, fun x hx z => ?_⟩
  · by_cases e : x = k
    · rw [e, Maps.has_put_same h1.isMap (isKey _)]; simp
    · rw [Maps.has_put_other (ne_key e), m2 x]; simp [e]
  · by_cases e : x = k
    · rw [e, fset_at]; exact Maps.atKey_put_same h1.isMap (isKey _) _ z
    · rw [fset_ne _ _ e, Maps.atKey_put_other (ne_key e)]
      exact m3 x ((List.mem_append.1 hx).resolve_right (fun q => e (List.mem_singleton.1 q))) z
theorem last_unit {l : List Hw} (h : Ok l) {b : Int} (h0 : 0 ≤ lastU l b) : lastU l b ∈ units l := by
  rcases lastU_in b l with q | ⟨y, hy, f1, f2⟩
  · omega
  · rw [← f2]
    have := (mem_onU' h.asc).1 ((blk_of h hy).2 f1)
    exact this.1
set_option maxRecDepth 100000 in
set_option maxHeartbeats 4000000 in
theorem add_idle {w : World} {g gd n cc : Nat} {S : Nat → Bk} {k jo id : Int} {l : List Hw} {sent : List Int} {m : Lay} {Fd : Nat → Prop} (h : HAt w g gd n S cc k jo id l sent m Fd) (hcc : cc ≤ 99999) (hk : k < 1000000) (hl : l.length < 200) (hjo : 0 ≤ jo ∧ jo ≤ 1000000) (hid : 0 ≤ id ∧ id ≤ 1000000) (Ax : Option Addr) (cx : Nat) (x : It) (hI : IntsF w (footH g l m Fd) Ax x.d) (hs : x.small) (hr : x.p.right = true) (hb : x.p.b < n)
    (first : Int) (hf0 : 0 ≤ first) (hf1 : first ≤ 1000000) (hd : ∀ y ∈ x.d, -1000 ≤ y)
    (hah0' : ahH l (x.d.map (depN first)) x.p = []) (hidle : idleB (blkH S l x.p.b) x.p = true) :
    Calls Try.prog 20 #[.pointer (some ⟨g, 0, none⟩), ItemV x Ax cx, .int .i64 first] w fun e w' => e = .returned (.tuple #[]) ∧ Went w w' (footH g l m Fd) (Eng w' g n S cc (k + 1) jo (id + 1) l sent) := by
  obtain ⟨ah, hah⟩ : ∃ ah, ah = ahH l (x.d.map (depN first)) x.p := ⟨_, rfl⟩
  have hlo := h.lo
  have hk0 := h.k0
  have hok := h.ok
  have hahw : ∀ d ∈ ah, hasN l d = true := fun d hd => by rw [hah] at hd; exact ahH_waits hd
  have hahl : ah.length ≤ 200 := by rw [hah]; have := ahH_len l (x.d.map (depN first)) x.p; omega
  have hahr : ah.Pairwise (· < ·) := by rw [hah]; exact ahH_rise h.ok.asc _ _
  have hah0 : ∀ d ∈ ah, 0 ≤ d := fun d hd => by
    obtain ⟨y, hy, rfl⟩ := hasN_iff.1 (hahw d hd)
    exact (h.lo y hy).1
  have hb0 : 0 ≤ x.p.b := (Pt.right_out hr).1
  have hge := h.glt
  have e1 := h.c1
  have f1 := h.free 1
  have HAl : Hid (∀ W1, W1 = (w.setCell ⟨g, 1, none⟩ (.int .i64 (k + 1))).alloc (.cells #[.int .i64 x.p.b, .int .i64 x.p.o, .string x.p.s, .slice Ax x.d.length cx] 35) →
      HAt W1 g gd n S cc (k + 1) jo id l sent m Fd ∧ Kept w W1 (fun b => b = g) ∧ W1.heap[w.heap.size]? = some (.cells #[.int .i64 x.p.b, .int .i64 x.p.o, .string x.p.s, .slice Ax x.d.length cx] 35 (0, 0)) ∧ W1.heap.size = w.heap.size + 1) := fun W1 hW => by
    have k1 : Kept w (w.setCell ⟨g, 1, none⟩ (.int .i64 (k + 1))) (fun b => b = g) := ⟨rfl, rfl, rfl, by simp, fun b _ hn => heap_setCell_other w ⟨g, 1, none⟩ b _ hn⟩
    have h1 : HAt (w.setCell ⟨g, 1, none⟩ (.int .i64 (k + 1))) g gd n S cc (k + 1) jo id l sent m Fd := h.headed k1 (by have := heap_setCell_same w g 1 _ 45 (.int .i64 (k + 1)) h.head; simpa [hcs] using this) (by omega)
    have hb1 := below_alloc1 (w.setCell ⟨g, 1, none⟩ (.int .i64 (k + 1))) (.cells #[.int .i64 x.p.b, .int .i64 x.p.o, .string x.p.s, .slice Ax x.d.length cx] 35)
    rw [hW]
    refine ⟨h1.fresh hb1, k1.trans (Kept.fresh (S := fun b => b = g) hb1) (fun b q => .inl q), ?_, by simp⟩
    have := heap_alloc_new (w.setCell ⟨g, 1, none⟩ (.int .i64 (k + 1))) (.cells #[.int .i64 x.p.b, .int .i64 x.p.o, .string x.p.s, .slice Ax x.d.length cx] 35)
    simpa using this
  have HAh : Hid (∀ W1, HAt W1 g gd n S cc (k + 1) jo id l sent m Fd → Kept w W1 (fun b => b = g) → IntsF W1 (footH g l m Fd) Ax x.d → Calls Try.prog 38 #[.pointer (some ⟨g, 0, none⟩), ItemV x Ax cx, .int .i64 first] W1 (Says W1 ah)) := fun W1 h1 _ hI1 => by
    rw [hah]
    exact ahead_any h1 (by omega) (by omega) (footH g l m Fd) Ax cx x hI1 hs hr first hf0 hf1 hd
  have HH := Lib.hid h
  have HI := Lib.hid hI
  have HRt := Lib.hid hr
  obtain ⟨⟨b, o, s⟩, ds⟩ := x
  unfold ItemV at *
  dsimp only at *
  obtain ⟨bi, rfl⟩ := Int.eq_ofNat_of_zero_le hb0
  have hbn : bi < n := by omega
  have HOn : Hid (∀ W1 W, HAt W1 g gd n S cc (k + 1) jo id l sent m Fd → Below W1.heap.size W1 W → Calls Try.prog 29 #[.pointer (some ⟨g, 0, none⟩), .int .i64 (bi : Int)] W fun e w' => ∃ A c, e = .returned (.slice A (onU l bi).length c) ∧ w'.ownsRow W.heap.size 59 1 (.slice A (onU l bi).length c) (onU l bi).length (ptrsU m.up (onU l bi)) ∧ Below W.heap.size W w') := fun W1 W h1 hW => on_any (h1.fresh hW) (by omega) _
  have HBh : Hid (∀ W1 W B A c, HAt W1 g gd n S cc (k + 1) jo id l sent m Fd → Below W1.heap.size W1 W → W.ownsRow B 59 1 (.slice A (onU l bi).length c) (onU l bi).length (ptrsU m.up (onU l bi)) → Calls Try.prog 17 #[.pointer (some ⟨g, 0, none⟩), .int .i64 (bi : Int), .slice A (onU l bi).length c] W (Gives W (blkH S l bi))) := fun W1 W B A c h1 hW hr => by
    have := behind_any (h1.fresh hW) hbn B A c (onU l bi) hr (fun u hu => ((mem_onU' hok.asc).1 hu).1) (by have := on_len (l := l) bi; omega) (by have := setU_len hok (onU_rises hok.asc bi) (fun u hu => hu); omega)
    unfold blkH
    rw [Int.toNat_natCast]
    exact this
  have HId : Hid (∀ (W : World) A c, 32 ≤ c → Bts W W.heap.size A (blkH S l bi) → (blkH S l bi).length = 32 → Calls Try.prog 39 #[.slice A 32 c, .agg #[.int .i64 (bi : Int), .int .i64 o, .string s]] W fun e w' => e = .returned (.bool true) ∧ Below W.heap.size W w') := fun W A c hc hb hl => by have := idle_yes A c _ ⟨bi, o, s⟩ W hb hl hc hr; unfold idleB at hidle; rw [hidle] at this; exact this
  obtain rfl : ah = [] := hah.trans hah0'
  generalize ds.length = dl at *
  clear h hah hI hr hah0' hidle
  go_enter Try.func20, Try.ntmps20
  go_wp2_with fail
  generalize hW1 : (w.setCell ⟨g, 1, none⟩ (.int .i64 (k + 1))).alloc (.cells #[.int .i64 (bi : Int), .int .i64 o, .string s, .slice Ax dl cx] 35) = W1
  obtain ⟨hA1, hk1, hit, hs1⟩ := HAl.out _ hW1.symm
  refine (HAh.out W1 hA1 hk1 (HI.out.keep hk1 (fun b q => .inl q) (fun b q => .inl q))).mono ?_
  rintro e w2 ⟨A2, c2, rfl, hr2, hb2⟩
  have HA1 := Lib.hid hA1
  have HK1 := Lib.hid hk1
  have HB2 := Lib.hid hb2
  have HR2 := Lib.hid hr2
  have Hs1 := Lib.hid hs1
  obtain ⟨p, hp⟩ : ∃ p, p = w.heap.size := ⟨_, rfl⟩
  have Hp := Lib.hid hp
  rw [← hp] at hit ⊢
  have HX : Hid (∀ W, Below W1.heap.size W1 W → W.cell? ⟨p, 0, none⟩ = some (.int .i64 (bi : Int)) ∧ W.cell? ⟨p, 1, none⟩ = some (.int .i64 o) ∧ W.cell? ⟨p, 2, none⟩ = some (.string s)) := fun W hW => by
    have hh := (hW.block _ (Array.getElem?_eq_some_iff.1 hit).1).trans hit
    exact ⟨cell_of_row W _ 0 _ 35 (0, 0) hh, cell_of_row W _ 1 _ 35 (0, 0) hh, cell_of_row W _ 2 _ 35 (0, 0) hh⟩
  have hpW : p < w2.heap.size := by have := hb2.size; have := (Array.getElem?_eq_some_iff.1 hit).1; omega
  clear hW1 hA1 hk1 hb2 hr2 hs1 hit hp
  have X2 := Lib.hid (HX.out w2.drew HB2.out.drew)
  go_wp2
  go_region_held3 (fun W => W.cell? ⟨p, 0, none⟩ = some (.int .i64 (bi : Int)) ∧ W.cell? ⟨p, 1, none⟩ = some (.int .i64 o) ∧ W.cell? ⟨p, 2, none⟩ = some (.string s)) (first | (with_reducible exact X2.out) | (with_reducible exact X3.out) | (with_reducible exact X4.out) | (with_reducible exact X5.out))
    (first
      | (go_at_call 29; (with_reducible refine (HOn.out W1 _ HA1.out HB2.out.drew).mono ?_); rintro e w3 ⟨A3, c3, rfl, hr3, hb3⟩; have HB3 : Hid (Below W1.heap.size W1 w3) := HB2.out.drew.trans (hb3.mono HB2.out.size); have HC3 : Hid (Below w2.heap.size w2 w3) := ((Below.refl w2.heap.size w2).drew).trans hb3; have HR3 := Lib.hid hr3; have X3 := Lib.hid (HX.out w3 HB3.out); clear hr3 hb3)
      | (go_at_call 17; (with_reducible refine (HBh.out W1 w3 _ _ _ HA1.out HB3.out HR3.out).mono ?_); rintro e w4 ⟨A4, c4, rfl, q1, q2, q3, q4, hb4⟩; have HB4 : Hid (Below W1.heap.size W1 w4) := HB3.out.trans (hb4.mono HB3.out.size); have HC4 : Hid (Below w2.heap.size w2 w4) := HC3.out.trans (hb4.mono HC3.out.size); have X4 := Lib.hid (HX.out w4 HB4.out); have HI4 := Lib.hid (HId.out w4 A4 c4 q1 q3 q4); clear q1 q2 q3 q4 hb4)
      | (go_at_call 39; (with_reducible refine HI4.out.mono ?_); rintro e w5 ⟨rfl, hb5⟩; have HB5 : Hid (Below W1.heap.size W1 w5) := HB4.out.trans (hb5.mono HB4.out.size); have HC5 : Hid (Below w2.heap.size w2 w5) := HC4.out.trans (hb5.mono HC4.out.size); have X5 := Lib.hid (HX.out w5 HB5.out); clear hb5)
      | fail)
  have HA5 := Lib.hid (HA1.out.fresh HB5.out)
  have e3 := HA5.out.c3
  have f3 := HA5.out.free 3
  have hg5 := HA5.out.glt
  go_wp2
  (try simp only [Exit.inBlock, Exit.then]); refine bodyPost_ret (results_none rfl _ _ _) rfl ?_
  have k6 : Kept w5 (w5.setCell ⟨g, 3, none⟩ (.int .i64 (id + 1))) (fun b => b = g) := ⟨rfl, rfl, rfl, by simp, fun b _ hn => heap_setCell_other w5 ⟨g, 3, none⟩ b _ hn⟩
  have h6 : HAt (w5.setCell ⟨g, 3, none⟩ (.int .i64 (id + 1))) g gd n S cc (k + 1) jo (id + 1) l sent m Fd := HA5.out.headed k6 (by have := heap_setCell_same w5 g 3 _ 45 (.int .i64 (id + 1)) HA5.out.head; simpa [hcs] using this) (Int.le_refl _)
  exact ⟨rfl, footH g l m Fd, ⟨gd, m, Fd, h6, rfl⟩, ((HK1.out.trans (Kept.fresh (S := fun b => b = g) HB5.out) (fun b q => .inl q)).trans k6 (fun b q => .inl q)).more (fun b q => .inl (.inl q)), fun b q => .inl q⟩
end Go.Proofs.Ytkldiofleepkfaa.Hd
