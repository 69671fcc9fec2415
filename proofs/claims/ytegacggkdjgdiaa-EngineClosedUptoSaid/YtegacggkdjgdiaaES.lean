/- What must be whatever is asked: live. -/
import Derived.Test.YtegacggkdjgdiaaER
set_option linter.unusedVariables false
set_option linter.unusedSimpArgs false
namespace Go.Proofs.Ytegacggkdjgdiaa
open Go.RowKit

theorem added_nil {first k : Int} {l l' : List Wr} (h : Added first l k [] l') : l' = l := by
  generalize hm : ([] : List It) = m at h
  cases h with
  | nil => rfl
  | snoc h hy => simp at hm
theorem added_snoc {first k : Int} {l l' : List Wr} {its : List It} {x : It} (h : Added first l k (its ++ [x]) l') : ∃ l'' y, l' = l'' ++ [y] ∧ Added first l k its l'' ∧ OneOf first l'' (k + its.length) x y := by
  generalize hm : its ++ [x] = m at h
  cases h with
  | nil => simp at hm
  | snoc h hy =>
    obtain ⟨rfl, h2⟩ := List.append_inj' hm rfl
    simp at h2
    subst h2
    exact ⟨_, _, rfl, h, hy⟩
theorem added_one {first k : Int} {l l' : List Wr} {a : It} (h : Added first l k [a] l') : ∃ y, l' = l ++ [y] ∧ OneOf first l k a y := by
  obtain ⟨l1, y, rfl, h1, hy⟩ := added_snoc (its := []) h
  obtain rfl := added_nil h1
  exact ⟨y, rfl, by simpa using hy⟩
theorem added_two {first k : Int} {l l' : List Wr} {a b : It} (h : Added first l k [a, b] l') : ∃ y z, l' = l ++ [y, z] ∧ OneOf first l k a y ∧ OneOf first (l ++ [y]) (k + 1) b z := by
  obtain ⟨l1, z, rfl, h1, hz⟩ := added_snoc (its := [a]) h
  obtain ⟨y, rfl, hy⟩ := added_one h1
  exact ⟨y, z, by simp, hy, by simpa using hz⟩
theorem OneOf.eq {first k : Int} {l : List Wr} {x : It} {y : Wr} (h : OneOf first l k x y) : y = ⟨k, x.p, ahL l (x.d.map (depN first)) x.p, y.A, y.c, false⟩ := by
  obtain ⟨h1, h2, h3, h4⟩ := h
  obtain ⟨n, p, ah, A, c, wr⟩ := y
  dsimp only at h1 h2 h3 h4
  subst h1 h2 h3 h4
  rfl
def pa : Pt := ⟨0, 0, ⟨#[97]⟩⟩
def pb : Pt := ⟨1, 0, ⟨#[98]⟩⟩
def liveI : List It := [⟨pa, []⟩, ⟨pb, [-1]⟩]
theorem liveI_ok : refusesE 3 0 0 liveI = 0 := by decide
def w0 (A : Option Addr) (c : Nat) : Wr := ⟨0, pa, [], A, c, false⟩
def w1 (A : Option Addr) (c : Nat) : Wr := ⟨1, pb, [0], A, c, false⟩
theorem live_added {l : List Wr} (h : Added 0 [] 0 liveI l) : ∃ A c A' c', l = [w0 A c, w1 A' c'] := by
  obtain ⟨y, z, rfl, hy, hz⟩ := added_two h
  refine ⟨y.A, y.c, z.A, z.c, ?_⟩
  have e1 := hy.eq
  have e2 := hz.eq
  have e3 : ahL [] (([] : List Int).map (depN 0)) pa = [] := rfl
  have e4 : ahL ([] ++ [y]) (([-1] : List Int).map (depN 0)) pb = [0] := by rw [e1]; rfl
  rw [e4] at e2
  rw [List.nil_append, e1, e2]
  rfl
section
variable (A A' : Option Addr) (c c' : Nat)
theorem live_r1 : readyL [w0 A c, w1 A' c'] ((1 : Nat) : Int) = [] := rfl
theorem live_r0 : readyL [w0 A c, w1 A' c'] ((0 : Nat) : Int) = [w0 A c] := rfl
theorem live_m0 : markL [w0 A c, w1 A' c'] [w0 A c] = [(w0 A c).done, w1 A' c'] := rfl
theorem live_f0 : leftL [(w0 A c).done, w1 A' c'] = [w1 A' c'] := rfl
theorem live_r2 : readyL [w1 A' c'] ((1 : Nat) : Int) = [w1 A' c'] := rfl
theorem live_m2 : numsL (markL [w1 A' c'] [w1 A' c']) = [1] := rfl
end
theorem wr_idle {S : Nat → Bk} {l : List Wr} {i : Nat} (h : readyL l (i : Int) = []) : wrS S l i = S ∧ wrL S l i = l ∧ wrN S l i = 0 ∧ wrE S l i = 0 := by
  have : wact l i = false := by unfold wact; rw [h]; rfl
  simp [wrS, wrL, wrN, wrE, wgo, this]
theorem wr_good {S : Nat → Bk} {l set : List Wr} {i : Nat} (h : readyL l (i : Int) = set) (hu : (set.any fun x => !x.wr) = true) (hb : (S i).b = false) : wrS S l i = upd S i ⟨(S i).s, (S i).v ++ [putL (S i).s set], false⟩ ∧ wrL S l i = markL l set ∧ wrN S l i = set.length ∧ wrE S l i = 0 := by
  have : wact l i = true := by unfold wact; rw [h]; exact hu
  simp [wrS, wrL, wrN, wrE, wgo, this, hb, h]
theorem run_of {w x x' : World} {F F' : Nat → Prop} (hB : Below w.heap.size w x) (hF : ∀ b, F b → w.heap.size ≤ b) (hk : Kept x x' F) (hf : ∀ b, F' b → F b ∨ x.heap.size ≤ b) : Below w.heap.size w x' ∧ ∀ b, F' b → w.heap.size ≤ b :=
  ⟨hB.trans (hk.below hF hB.size), fun b q => by
    rcases hf b q with q | q
    · exact hF b q
    · have := hB.size; omega⟩
theorem ewrite_at {w : World} {ge n cc : Nat} {S S' : Nat → Bk} {k N E : Int} {l l' : List Wr} {F : Nat → Prop} (h : Eng w ge n S cc k l F) {x : Int} {i : Nat} (hx : x = (i : Int)) (hi : i < n) (hc : cc < 99999) (hq : wrS S l i = S' ∧ wrL S l i = l' ∧ wrN S l i = N ∧ wrE S l i = E) :
    Calls Try.prog 12 #[.pointer (some ⟨ge, 0, none⟩), .int .i64 x] w fun e w' => e = .returned (.tuple #[.int .i64 N, .int .i64 E]) ∧ Went w w' F (Eng w' ge n S' (cc + 1) k l') := by
  obtain ⟨rfl, rfl, rfl, rfl⟩ := hq
  subst hx
  exact ewrite_any h hi hc
theorem live_small : SmallI liveI := by
  intro x hx
  simp [liveI] at hx
  rcases hx with rfl | rfl
  · exact ⟨Pt.ok_of_right (by decide), by decide, fun y hy => by cases hy⟩
  · exact ⟨Pt.ok_of_right (by decide), by decide, fun y hy => by simp at hy; subst hy; unfold I64; omega⟩
def liveC (b : Nat) : Array Value := #[.int .i64 0, .int .i64 0, .string ⟨#[97]⟩, .slice none 0 0, .int .i64 1, .int .i64 0, .string ⟨#[98]⟩, .slice (some ⟨b, 0, none⟩) 1 1]
theorem live_items (W : World) (F : Nat → Prop) (hF : ∀ b, F b → b < W.heap.size) : ItemsF ((W.alloc (.cells #[.int .i64 (-1)] 3)).alloc (.cells (liveC W.heap.size) 34)) F (some ⟨W.heap.size + 1, 0, none⟩) liveI := fun _ => by
  have hn := heap_alloc2_new W (.cells #[.int .i64 (-1)] 3) (.cells (liveC W.heap.size) 34)
  have ho := heap_alloc2_old W (.cells #[.int .i64 (-1)] 3) (.cells (liveC W.heap.size) 34)
  refine ⟨W.heap.size + 1, 0, fun j => if j = 0 then none else some ⟨W.heap.size, 0, none⟩, fun j => if j = 0 then 0 else 1, rfl, by simp, fun q => by have := hF _ q; omega, fun j hj => ?_⟩
  generalize (W.alloc (.cells #[.int .i64 (-1)] 3)).alloc (.cells (liveC W.heap.size) 34) = W2 at hn ho
  have hj2 : j < 2 := hj
  have hc : ∀ i, W2.cell? ⟨W.heap.size + 1, i, none⟩ = (liveC W.heap.size)[i]? := fun i => cell_of_row W2 _ i _ 34 (0, 0) hn
  rcases (show j = 0 ∨ j = 1 by omega) with rfl | rfl
  · exact ⟨hc _, hc _, hc _, hc _, fun h => by simp [liveI, itN] at h⟩
  · refine ⟨hc _, hc _, hc _, hc _, fun _ => ⟨W.heap.size, 0, rfl, (Array.getElem?_eq_some_iff.1 ho).1, fun q => by have := hF _ q; omega, fun i hi => ?_⟩⟩
    have hi1 : i < 1 := hi
    obtain rfl : i = 0 := by omega
    exact cell_of_row W2 _ 0 _ 3 (0, 0) ho
set_option maxRecDepth 100000 in
set_option maxHeartbeats 4000000 in
theorem live_any (w : World) : Calls Try.prog 19 #[] w fun e w' => e = .returned (.bool true) ∧ Below w.heap.size w w' := by
  have HD := Lib.hid (cnew (m := 3) (by decide) (by decide) w)
  go_enter Try.func19, Try.ntmps19
  go_wp2_with (first
    | (go_at_call 9; refine HD.out.mono ?_; rintro e x1 ⟨rfl, ⟨F0, hd1, hf1⟩, hb1⟩; have HD1 := Lib.hid hd1; have HB1 := Lib.hid hb1; have HN := Lib.hid (enew hd1 (by decide)); clear hd1 hf1 hb1)
    | (go_at_call 8; refine HN.out.mono ?_; rintro e x2 ⟨ge, F, rfl, he2, hf2, hb2⟩; have HE2 := Lib.hid he2; have HF2 : Hid (∀ b, F b → w.heap.size ≤ b) := (fun b q => Nat.le_trans HB1.out.size (hf2 b q)); have HB2 := Lib.hid (HB1.out.trans (hb2.mono HB1.out.size)); have HBa : Hid (Below x2.heap.size x2 ((x2.alloc (.cells #[.int .i64 (-1)] 3)).alloc (.cells (liveC x2.heap.size) 34))) := ((Below.refl _ _).alloc (Nat.le_refl _) _).alloc (by simp) _; clear he2 hf2 hb2)
    | (go_at_call 10; refine (eadd (HE2.out.fresh HBa.out) (some ⟨x2.heap.size + 1, 0, none⟩) 2 liveI (live_items x2 F HE2.out.lt) live_small (by decide) (by decide) liveI_ok).mono ?_; rintro e x3 ⟨rfl, F3, ⟨l3, ha3, he3⟩, hk3, hf3⟩; obtain ⟨A3, c3, A4, c4, rfl⟩ := live_added ha3; have HE3 := Lib.hid he3; have hr3 := run_of (HB2.out.trans (HBa.out.mono HB2.out.size)) HF2.out hk3 hf3; have HR3 := Lib.hid hr3; clear ha3 he3 hk3 hf3 hr3)
    | (go_at_call 12; (with_reducible refine (ewrite_at (x := 1) (i := 1) HE3.out rfl (by decide) (by decide) (wr_idle (live_r1 A3 A4 c3 c4))).mono ?_); rintro e x4 ⟨rfl, F4, he4, hk4, hf4⟩; have HE4 := Lib.hid he4; have HR4 := Lib.hid (run_of HR3.out.1 HR3.out.2 hk4 hf4); clear he4 hk4 hf4)
    | (go_at_call 12; (with_reducible refine (ewrite_at (x := 0) (i := 0) HE4.out rfl (by decide) (by decide) (wr_good (live_r0 A3 A4 c3 c4) rfl rfl)).mono ?_); rintro e x5 ⟨rfl, F5, he5, hk5, hf5⟩; have HE5 := Lib.hid he5; have HR5 := Lib.hid (run_of HR4.out.1 HR4.out.2 hk5 hf5); clear he5 hk5 hf5)
    | (go_at_call 13; (with_reducible refine (eflush HE5.out (by decide)).mono ?_); rintro e x6 ⟨rfl, F6, he6, hk6, hf6⟩; rw [live_m0, live_f0] at he6; have HE6 := Lib.hid he6; have HR6 := Lib.hid (run_of HR5.out.1 HR5.out.2 hk6 hf6); clear he6 hk6 hf6)
    | (go_at_call 12; (with_reducible refine (ewrite_at (x := 1) (i := 1) HE6.out rfl (by decide) (by decide) (wr_good (live_r2 A4 c4) rfl rfl)).mono ?_); rintro e x7 ⟨rfl, F7, he7, hk7, hf7⟩; have HE7 := Lib.hid he7; have HR7 := Lib.hid (run_of HR6.out.1 HR6.out.2 hk7 hf7); clear he7 hk7 hf7)
    | (go_at_call 17; (with_reducible refine (ewaiting HE7.out).mono ?_); rintro e x8 ⟨A8, c8, rfl, _, hb8⟩; rw [live_m2]; have HE8 := Lib.hid (HE7.out.fresh hb8); have HB8 := Lib.hid (HR7.out.1.trans (hb8.mono HR7.out.1.size)); clear hb8)
    | (go_at_call 23; (with_reducible refine (enext HE8.out).mono ?_); rintro e x9 ⟨rfl, rfl⟩))
  go_ret
  exact ⟨rfl, HB8.out⟩
end Go.Proofs.Ytegacggkdjgdiaa
