/- What an Add makes, plainly; the live check of an engine that writes together. -/
import Derived.Test.YtkldiofleepkfaaIC
import Derived.Test.YtkldiofleepkfaaHU
set_option linter.unusedVariables false
set_option linter.unusedSimpArgs false
namespace Go.Proofs.Ytkldiofleepkfaa.Hd
open Go.RowKit
open Go.Maps (Keyed)
theorem homeU_join {l : List Hw} {sent : List Int} {n b : Int} {ah : List Int} (h : joinsH l sent b ah) : homeU l sent n b ah = lastU l b := by
  unfold homeU
  exact if_pos h
theorem homeU_new {l : List Hw} {sent : List Int} {n b : Int} {ah : List Int} (h : ¬ joinsH l sent b ah) : homeU l sent n b ah = n := by
  unfold homeU
  exact if_neg h
section
variable {S : Nat → Bk} {first : Int} {s : Hs} {x : It}
theorem add1_idle (h : ahS s first x = []) (hi : idleB (blkH S s.l x.p.b) x.p = true) : add1 S first s x = ⟨s.k + 1, s.jo, s.id + 1, s.l, s.sent⟩ := by
  unfold add1; rw [if_pos ⟨h, hi⟩]
theorem add1_join (h : ¬ (ahS s first x = [] ∧ idleB (blkH S s.l x.p.b) x.p = true)) (hj : joinsH s.l s.sent x.p.b (ahS s first x)) : add1 S first s x = ⟨s.k + 1, s.jo + 1, s.id, s.l ++ [⟨s.k, x.p, ahS s first x, lastU s.l x.p.b⟩], s.sent⟩ := by
  unfold add1 addH; rw [if_neg h, if_pos hj, homeU_join hj]
theorem add1_new (h : ¬ (ahS s first x = [] ∧ idleB (blkH S s.l x.p.b) x.p = true)) (hj : ¬ joinsH s.l s.sent x.p.b (ahS s first x)) : add1 S first s x = ⟨s.k + 1, s.jo, s.id, s.l ++ [⟨s.k, x.p, ahS s first x, s.k⟩], s.sent⟩ := by
  unfold add1 addH; rw [if_neg h, if_neg hj, homeU_new hj]
end
theorem joins_none {b : Int} {ah : List Int} {sent : List Int} : ¬ joinsH [] sent b ah := fun h => by have := h.1; simp [lastU] at this
def pa : Pt := ⟨1, 0, ⟨#[97]⟩⟩
def pb : Pt := ⟨1, 0, ⟨#[98]⟩⟩
def liveI : List It := [⟨pa, []⟩, ⟨pb, []⟩, ⟨pb, []⟩]
def liveJ : List It := [⟨pb, []⟩]
def S0 : Nat → Bk := fun _ => ⟨noSec, [], false⟩
def h0 : Hs := ⟨0, 0, 0, [], []⟩
def x0 : Hw := ⟨0, pa, [], 0⟩
def x1 : Hw := ⟨1, pb, [0], 0⟩
def x2 : Hw := ⟨2, pb, [0, 1], 0⟩
def h3 : Hs := ⟨3, 2, 0, [x0, x1, x2], []⟩
theorem near0 {l : List Hw} {x : Hw} (h : x ∈ l) (hu : x.u = 0) : Near l 0 x.num := .unit h hu
theorem live_add : addAll S0 0 h0 liveI = h3 := by
  have e1 : add1 S0 0 h0 ⟨pa, []⟩ = ⟨1, 0, 0, [x0], []⟩ := add1_new (fun h => absurd h.2 (by decide)) joins_none
  have e2 : add1 S0 0 ⟨1, 0, 0, [x0], []⟩ ⟨pb, []⟩ = ⟨2, 1, 0, [x0, x1], []⟩ := by
    refine (add1_join (fun h => absurd h.1 (by decide)) ⟨by decide, by decide, fun d hd => ?_⟩).trans rfl
    have hd : d ∈ [(0 : Int)] := hd
    rw [List.mem_singleton.1 hd]
    exact near0 (x := x0) (by simp) rfl
  have e3 : add1 S0 0 ⟨2, 1, 0, [x0, x1], []⟩ ⟨pb, []⟩ = h3 := by
    refine (add1_join (fun h => absurd h.1 (by decide)) ⟨by decide, by decide, fun d hd => ?_⟩).trans rfl
    have hd : d ∈ [(0 : Int), 1] := hd
    rcases List.mem_cons.1 hd with rfl | hd
    · exact near0 (x := x0) (by simp) rfl
    · rw [List.mem_singleton.1 hd]
      exact near0 (x := x1) (by simp) rfl
  show add1 S0 0 (add1 S0 0 (add1 S0 0 h0 ⟨pa, []⟩) ⟨pb, []⟩) ⟨pb, []⟩ = h3
  rw [e1, e2, e3]
theorem live_ready : readyU h3.l ((1 : Nat) : Int) = [0] := by decide
theorem live_go : wgo S0 h3 1 = true := by decide
theorem live_n : wrN S0 h3 1 = 3 := by unfold wrN; rw [if_pos live_go, live_ready]; decide
theorem live_e : wrE S0 h3 1 = 0 := by decide
theorem live_h : flH (wrH S0 h3 1) = ⟨3, 2, 0, [], []⟩ := by unfold wrH; rw [if_pos live_go, live_ready]; rfl
def S2 : Nat → Bk := fun j => (wrS S0 h3 1 j).flushed
theorem live_s : (S2 1).s = putH noSec [x0, x1, x2] := by
  unfold S2 wrS
  rw [if_pos live_go, live_ready, upd_same]
  rfl
theorem live_again : addAll S2 3 ⟨3, 2, 0, [], []⟩ liveJ = ⟨4, 2, 1, [], []⟩ := by
  show add1 S2 3 ⟨3, 2, 0, [], []⟩ ⟨pb, []⟩ = _
  refine (add1_idle rfl ?_).trans rfl
  have : blkH S2 [] 1 = putH noSec [x0, x1, x2] := live_s
  show idleB (blkH S2 [] 1) pb = true
  rw [this]
  decide
theorem ok_of_right {p : Pt} (h : p.right = true) : p.ok := by
  obtain ⟨h1, h2, h3, h4, h5, h6⟩ := Pt.right_out h
  exact ⟨by omega, by omega, by unfold maxLen; omega⟩
theorem live_small : SmallI liveI := by
  intro x hx
  simp [liveI] at hx
  rcases hx with rfl | rfl | rfl
  all_goals exact ⟨ok_of_right (by decide), by decide, fun y hy => by cases hy⟩
theorem live_small2 : SmallI liveJ := fun x hx => live_small x (by
  rw [List.mem_singleton.1 hx]; simp [liveI])
theorem run_of {w x x' : World} {F F' : Nat → Prop} (hB : Below w.heap.size w x) (hF : ∀ b, F b → w.heap.size ≤ b) (hk : Kept x x' F) (hf : ∀ b, F' b → F b ∨ x.heap.size ≤ b) : Below w.heap.size w x' ∧ ∀ b, F' b → w.heap.size ≤ b :=
  ⟨hB.trans (hk.below hF hB.size), fun b q => by
    rcases hf b q with q | q
    · exact hF b q
    · have := hB.size; omega⟩
theorem hadd_at {w : World} {g n cc : Nat} {S : Nat → Bk} {s s' : Hs} {F : Nat → Prop} (h : EngS w g n S cc s F) (hc : s.Cnt) (AI : Option Addr) (cI m : Nat) (its : List It) (hm : its.length = m) (hI : ItemsF w F AI its) (hs : SmallI its) (hk1 : s.k ≤ 900000) (hcc : cc + m ≤ 99999) (hr : refusesE n s.k s.l.length its = 0) {k : Int} (hk : s.k = k) (he : addAll S k s its = s') :
    Calls Try.prog 7 #[.pointer (some ⟨g, 0, none⟩), .slice AI m cI] w fun e w' => e = .returned (.tuple #[.int .i64 k, .int .i64 0]) ∧ Went w w' F (EngS w' g n S (cc + m) s') := by
  subst hm hk he
  exact hadd h hc AI cI its hI hs hk1 hcc hr
theorem hwrite_at {w : World} {g n cc : Nat} {S : Nat → Bk} {s : Hs} {F : Nat → Prop} (h : EngS w g n S cc s F) {y : Int} {i : Nat} (hy : y = (i : Int)) (hi : i < n) (hcc : cc ≤ 99998) (hk : s.k ≤ 1000000) {N E : Int} (hN : wrN S s i = N) (hE : wrE S s i = E) :
    Calls Try.prog 6 #[.pointer (some ⟨g, 0, none⟩), .int .i64 y] w fun e w' => e = .returned (.tuple #[.int .i64 N, .int .i64 E]) ∧ Went w w' F (EngS w' g n (wrS S s i) (cc + 1) (wrH S s i)) := by
  subst hN hE hy
  exact hwrite_any h hi hcc hk
def itC (x : It) : List Value := [.int .i64 x.p.b, .int .i64 x.p.o, .string x.p.s, .slice none 0 0]
/-- items of no numbers, in a row of their own -/
theorem items_none (W : World) (F : Nat → Prop) (hF : ∀ b, F b → b < W.heap.size) (its : List It) (hd : ∀ x ∈ its, x.d = []) (cs : Array Value) (hcs : cs = (its.flatMap itC).toArray) : ItemsF (W.alloc (.cells cs 35)) F (some ⟨W.heap.size, 0, none⟩) its := fun hn => by
  subst hcs
  have hb := heap_alloc_new W (.cells (its.flatMap itC).toArray 35)
  refine ⟨W.heap.size, 0, fun _ => none, fun _ => 0, rfl, (Array.getElem?_eq_some_iff.1 hb).1, fun q => by have := hF _ q; omega, fun j hj => ?_⟩
  have hfl : ∀ (l : List It) (j r : Nat) (hj : j < l.length), r < 4 → (l.flatMap itC)[j * 4 + r]? = (itC (l[j]'hj))[r]? := fun l => by
    induction l with
    | nil => intro j r hj; simp at hj
    | cons a t ih =>
      intro j r hj hr
      rw [List.flatMap_cons]
      have hl : (itC a).length = 4 := rfl
      cases j with
      | zero => rw [List.getElem?_append_left (by rw [hl]; omega)]; simp
      | succ j =>
        rw [List.getElem?_append_right (by rw [hl]; omega), hl, show (j + 1) * 4 + r - 4 = j * 4 + r by omega, ih j r (by simpa using hj) hr]
        simp
  have hc : ∀ r, r < 4 → (W.alloc (.cells (its.flatMap itC).toArray 35)).cell? ⟨W.heap.size, j * 4 + r, none⟩ = (itC (its[j]'hj))[r]? := fun r hr => by
    rw [cell_of_row _ _ _ _ 35 (0, 0) hb, List.getElem?_toArray]
    exact hfl its j r hj hr
  have hit : itN its j = its[j]'hj := itN_lt hj
  have hd0 := hd _ (List.getElem_mem hj)
  refine ⟨by rw [hit, Nat.zero_add]; exact hc 0 (by omega), by rw [hit, Nat.zero_add]; exact hc 1 (by omega), by rw [hit, Nat.zero_add]; exact hc 2 (by omega), by rw [hit, Nat.zero_add, hd0]; exact hc 3 (by omega), fun h => by rw [hit, hd0] at h; simp at h⟩
theorem stay {x x' : World} {F F' : Nat → Prop} {b : Nat} {o : Obj} (hb : x.heap[b]? = some o) (hn : ¬ F b) (hk : Kept x x' F) (hf : ∀ b, F' b → F b ∨ x.heap.size ≤ b) : x'.heap[b]? = some o ∧ ¬ F' b := by
  have hlt := (Array.getElem?_eq_some_iff.1 hb).1
  refine ⟨(hk.block b hlt hn).trans hb, fun q => ?_⟩
  rcases hf b q with q | q
  · exact hn q
  · omega
theorem size3 {W a b : World} (hs : b.heap.size = W.heap.size) : W.heap.size = b.heap.size := hs.symm
def itRow (x : It) : Array Value := #[.int .i64 x.p.b, .int .i64 x.p.o, .string x.p.s, .slice none 0 0]
theorem infoItem : (Try.prog.info? 35).map (·.size) = some 4 := by kernel_rfl
set_option maxRecDepth 100000 in
set_option maxHeartbeats 4000000 in
theorem live_any (w : World) : Calls Try.prog 9 #[] w fun e w' => e = .returned (.bool true) ∧ Below w.heap.size w w' := by
  have HD := Lib.hid (cnew (m := 3) (by decide) (by decide) w)
  have hiI := Lib.hid infoItem
  go_enter Try.func9, Try.ntmps9
  go_wp2_with (first
    | (go_at_call 5; refine HD.out.mono ?_; rintro e y1 ⟨rfl, ⟨F0, hd1, hf1⟩, hb1⟩; have HD1 := Lib.hid hd1; have HB1 := Lib.hid hb1; have HN := Lib.hid (hnew hd1 (by decide)); clear hd1 hf1 hb1)
    | (go_at_call 4; refine HN.out.mono ?_; rintro e y2 ⟨g, F, rfl, he2, hf2, hb2⟩; have HE2 : Hid (EngS y2 g 3 S0 0 h0 F) := he2; have HF2 : Hid (∀ b, F b → w.heap.size ≤ b) := (fun b q => Nat.le_trans HB1.out.size (hf2 b q)); have HB2 := Lib.hid (HB1.out.trans (hb2.mono HB1.out.size)); clear he2 hf2 hb2))
  generalize hWa : y2.alloc (.cells #[.int .i64 1, .int .i64 0, .string ⟨#[97]⟩, .slice none 0 0] 35) = Wa
  generalize hWb : Wa.alloc (.cells #[.int .i64 1, .int .i64 0, .string ⟨#[98]⟩, .slice none 0 0] 35) = Wb
  have sa : Wa.heap.size = y2.heap.size + 1 := by rw [← hWa]; exact size_alloc1 _ _
  have sb : Wb.heap.size = y2.heap.size + 1 + 1 := by rw [← hWb, size_alloc1, sa]
  have hbb : Wb.heap[y2.heap.size + 1]? = some (.cells #[.int .i64 1, .int .i64 0, .string ⟨#[98]⟩, .slice none 0 0] 35 (0, 0)) := by rw [← hWb, ← sa]; exact heap_alloc_new _ _
  have HBa : Hid (Below y2.heap.size y2 Wb) := by rw [← hWb, ← hWa]; exact ((Below.refl _ _).alloc (Nat.le_refl _) _).alloc (by simp) _
  have HI := items_none Wb F (fun b q => Nat.lt_of_lt_of_le (HE2.out.lt b q) HBa.out.size) liveI (by decide) _ rfl
  simp only [liveI, List.flatMap_cons, List.flatMap_nil, itC, pa, pb, List.cons_append, List.nil_append, List.append_nil, sb] at HI
  generalize hWc : Wb.alloc (.cells #[.int .i64 1, .int .i64 0, .string ⟨#[97]⟩, .slice none 0 0, .int .i64 1, .int .i64 0, .string ⟨#[98]⟩, .slice none 0 0, .int .i64 1, .int .i64 0, .string ⟨#[98]⟩, .slice none 0 0] 35) = Wc at HI ⊢
  have HBc : Hid (Below y2.heap.size y2 Wc) := by rw [← hWc]; exact HBa.out.trans ((Below.refl _ _).alloc (by rw [sb]; omega) _)
  have hbc : Wc.heap[y2.heap.size + 1]? = some (.cells #[.int .i64 1, .int .i64 0, .string ⟨#[98]⟩, .slice none 0 0] 35 (0, 0)) := by rw [← hWc]; exact ((below_alloc1 Wb _).block _ (by rw [sb]; omega)).trans hbb
  have hnb : ¬ F (y2.heap.size + 1) := fun q => by have := HE2.out.lt _ q; omega
  have HBW : Hid (Below w.heap.size w Wc) := HB2.out.trans (HBc.out.mono HB2.out.size)
  obtain ⟨bb, hbbe⟩ : ∃ bb, bb = y2.heap.size + 1 := ⟨_, rfl⟩
  rw [← hbbe] at HI hbc hnb ⊢
  have HAd := Lib.hid (hadd_at (m := 3) (k := 0) (HE2.out.fresh HBc.out) ⟨by decide, by decide, by decide, by decide⟩ (some ⟨bb + 1, 0, none⟩) 3 liveI rfl HI live_small (by decide) (by decide) (by decide) rfl live_add)
  have Hbc := Lib.hid hbc
  have Hnb := Lib.hid hnb
  clear HI hbc hnb hbb sa sb hWa hWb hWc HBa HE2 hbbe HBc
  refine HAd.out.mono ?_
  rintro e y3 ⟨rfl, F3, he3, hk3, hf3⟩
  have HE3 := Lib.hid he3
  have HR3 := Lib.hid (run_of HBW.out HF2.out hk3 hf3)
  have HX3 := Lib.hid (stay Hbc.out Hnb.out hk3 hf3)
  clear he3 hk3 hf3
  go_wp2_with (first
    | (go_at_call 8; refine (hunits HE3.out (by decide)).mono ?_; rintro e y4 ⟨A4, c4, rfl, _, hb4⟩; have HE4 := Lib.hid (HE3.out.fresh hb4); have HR4 := Lib.hid (run_of HR3.out.1 HR3.out.2 (Kept.fresh hb4) (fun b q => .inl q)); have HX4 := Lib.hid (stay HX3.out.1 HX3.out.2 (Kept.fresh (S := F3) hb4) (fun b q => .inl q)); clear hb4)
    | (go_at_call 6; refine (hwrite_at (i := 1) HE4.out rfl (by decide) (by decide) (by decide) live_n live_e).mono ?_; rintro e y5 ⟨rfl, F5, he5, hk5, hf5⟩; have HE5 := Lib.hid he5; have HR5 := Lib.hid (run_of HR4.out.1 HR4.out.2 hk5 hf5); have HX5 := Lib.hid (stay HX4.out.1 HX4.out.2 hk5 hf5); clear he5 hk5 hf5)
    | (go_at_call 23; refine (hflush_any HE5.out (by decide) (by rw [wrH_k]; decide)).mono ?_; rintro e y6 ⟨rfl, F6, he6, hk6, hf6⟩; rw [live_h] at he6; have HE6 : Hid (EngS y6 g 3 S2 4 ⟨3, 2, 0, [], []⟩ F6) := he6; have HR6 := Lib.hid (run_of HR5.out.1 HR5.out.2 hk6 hf6); have HX6 := Lib.hid (stay HX5.out.1 HX5.out.2 hk6 hf6); clear he6 hk6 hf6)
    | (refine wpList_load_row rfl 35 (.tmp 3) rfl bb rfl 35 _ (0, 0) _ HX6.out.1 Try.underlying35 rfl hiI.out ?_))
  generalize hWd : y6.alloc (.cells #[.int .i64 1, .int .i64 0, .string ⟨#[98]⟩, .slice none 0 0] 35) = Wd
  have HBd : Hid (Below y6.heap.size y6 Wd) := by rw [← hWd]; exact below_alloc1 _ _
  have HI := items_none y6 F6 (fun b q => HE6.out.lt b q) liveJ (by decide) _ rfl
  simp only [liveJ, List.flatMap_cons, List.flatMap_nil, itC, pa, pb, List.cons_append, List.nil_append, List.append_nil, hWd] at HI
  have HR7 := Lib.hid (run_of HR6.out.1 HR6.out.2 (Kept.fresh (S := F6) HBd.out) (fun b q => .inl q))
  have HAe := Lib.hid (hadd_at (m := 1) (k := 3) (HE6.out.fresh HBd.out) ⟨by decide, by decide, by decide, by decide⟩ (some ⟨y6.heap.size, 0, none⟩) 1 liveJ rfl HI live_small2 (by decide) (by decide) (by decide) rfl live_again)
  clear HI hWd
  refine HAe.out.mono ?_
  rintro e y7 ⟨rfl, F7, he7, hk7, hf7⟩
  have HE7 := Lib.hid he7
  have HR8 := Lib.hid (run_of HR7.out.1 HR7.out.2 hk7 hf7)
  clear he7 hk7 hf7
  go_wp2_with (first
    | (go_at_call 24; refine (hcounts HE7.out).mono ?_; rintro e y8 ⟨rfl, hb8⟩; have HE8 := Lib.hid (HE7.out.fresh hb8); have HR9 := Lib.hid (run_of HR8.out.1 HR8.out.2 (Kept.fresh (S := F7) hb8) (fun b q => .inl q)); clear hb8)
    | (go_at_call 25; refine (hwaiting HE8.out (by decide)).mono ?_; rintro e y9 ⟨A9, c9, rfl, _, hb9⟩; have HR10 := Lib.hid (run_of HR9.out.1 HR9.out.2 (Kept.fresh (S := F7) hb9) (fun b q => .inl q)); clear hb9))
  go_ret
  exact ⟨rfl, HR10.out.1⟩
end Go.Proofs.Ytkldiofleepkfaa.Hd
