/- The program's arm: New, Ask, Waiting, Fork, Next whatever is asked for. -/
import Derived.Test.YtpelocpjfmmceaaM
import Derived.Test.YtpelocpjfmmceaaA2
set_option linter.unusedVariables false
set_option linter.unusedSimpArgs false
namespace Go.Proofs.Ytpelocpjfmmceaa
open Go.RowKit

theorem at_ok (b p : Int) (h : okB b p = true) (w : World) :
    Calls Try.prog 22 #[.int .i64 b, .int .i64 p] w fun e w' => (∃ x y, e = .returned (.tuple #[.complex .f64 x y, .int .i64 0])) ∧ Below w.heap.size w w' := by
  obtain ⟨i, n, rfl, rfl, h1, h2, h3⟩ := okB_yes h
  exact (at_yes i n h1 h2 h3 w).mono fun _ _ ⟨h, k⟩ => ⟨⟨_, _, h⟩, k.below (Below.refl _ _)⟩
/-- may an arm be so? -/
def newOk (p : Nat) (n : Int) : Bool := decide (1 ≤ p ∧ p ≤ 4) && decide (1 ≤ n ∧ n ≤ 64)
theorem okB_zero (n : Int) : okB 0 n = decide (1 ≤ n ∧ n ≤ 64) := by
  unfold okB
  by_cases h : 1 ≤ n ∧ n ≤ 64
  · simp [h]
  · rw [decide_eq_false h]
    rcases Classical.em (1 ≤ n) with q | q
    · have : ¬ n ≤ 64 := fun z => h ⟨q, z⟩
      simp [q, this]
    · simp [q]
def fresh (p : Nat) (n : Int) : Ar := ⟨p, n.toNat, 0, 0, true, []⟩
theorem fresh_ok {p : Nat} {n : Int} (h : newOk p n = true) (c : Nat) : (fresh p n).Ok c := by
  unfold newOk at h
  simp at h
  exact ⟨h.1.1, h.1.2, by show 1 ≤ n.toNat; omega, by show n.toNat ≤ 64; omega, by show 0 < 1024; omega, Nat.zero_le _, by show 0 ≤ 24; omega, fun r hr => (by cases hr), List.nodup_nil, fun r hr => (by cases hr)⟩
def NewSays (w : World) (p : Nat) (n : Int) (e : Ending) (w' : World) : Prop := Below w.heap.size w w' ∧ ((newOk p n = true ∧ ∃ g, e = .returned (.pointer (some ⟨g, 0, none⟩)) ∧ PAt w.heap.size w' g none 0 (fresh p n)) ∨ (newOk p n = false ∧ e = .returned (.pointer none)))
set_option maxRecDepth 100000 in
set_option maxHeartbeats 1000000 in
theorem new_any (p : Nat) (n : Int) (hp : p < 256) (w : World) : Calls Try.prog 32 #[.int .u8 p, .int .i64 n] w (NewSays w p n) := by
  have HK := Lib.hid (fun W => known_any W p hp)
  cases ho : okB 0 n with
  | false =>
    have HA := Lib.hid (fun W => at_no 0 n (okB_no ho) W)
    have HX : Hid (newOk p n = false) := by unfold Hid newOk; rw [← okB_zero, ho, Bool.and_false]
    clear ho HK
    go_enter Try.func32, Try.ntmps32
    go_wp2_with (refine (HA.out _).mono ?_; rintro e w' ⟨rfl, rfl⟩)
    go_ret
    exact ⟨Below.refl _ _, .inr ⟨HX.out, rfl⟩⟩
  | true =>
    have HA := Lib.hid (fun W => at_ok 0 n ho W)
    cases hk : decide (1 ≤ p ∧ p ≤ 4) with
    | false =>
      have HX : Hid (newOk p n = false) := by unfold Hid newOk; rw [hk]; rfl
      rw [hk] at HK
      clear ho hk
      go_enter Try.func32, Try.ntmps32
      go_wp2_with (first
        | (go_at_call 22; refine (HA.out _).mono ?_; rintro e w1 ⟨⟨x, y, rfl⟩, hb1⟩; have HB1 := Lib.hid hb1; clear hb1)
        | (go_at_call 51; refine (HK.out _).mono ?_; rintro e w' ⟨rfl, rfl⟩))
      go_ret
      exact ⟨HB1.out, .inr ⟨HX.out, rfl⟩⟩
    | true =>
      have HX : Hid (newOk p n = true) := by unfold Hid newOk; rw [← okB_zero, ho, hk]; rfl
      have HY : Hid (∀ W, Below w.heap.size w W → NewSays w p n (.returned (.pointer (some ⟨W.heap.size, 0, none⟩))) (W.alloc (.cells #[.int .u8 p, .int .i64 n, .int .i64 0, .int .i64 0, .bool true, .slice none 0 0] 67))) := fun W hW => by
        refine ⟨hW.alloc hW.size _, .inl ⟨HX.out, W.heap.size, rfl, ?_, World.ownsRow_nil _ _ _ _, by decide, hW.size⟩⟩
        rw [heap_alloc_new]
        have : 0 ≤ n := by rw [okB_zero] at ho; simp at ho; omega
        unfold fresh hP
        rw [show ((n.toNat : Int)) = n by omega]
        rfl
      rw [hk] at HK
      clear ho hk
      go_enter Try.func32, Try.ntmps32
      go_wp2_with (first
        | (go_at_call 22; refine (HA.out _).mono ?_; rintro e w1 ⟨⟨x, y, rfl⟩, hb1⟩; have HB1 := Lib.hid hb1; clear hb1)
        | (go_at_call 51; refine (HK.out _).mono ?_; rintro e w' ⟨rfl, rfl⟩))
      go_ret
      exact HY.out _ HB1.out
section
variable (B g : Nat) (A : Option Addr) (c : Nat) (x : Ar) (w : World)
theorem waiting_any (hC : PAt B w g A c x) (hl : x.l.length ≤ 1000) :
    Calls Try.prog 18 #[.pointer (some ⟨g, 0, none⟩)] w fun e w' => ∃ A' c', e = .returned (.slice A' x.l.length c') ∧ RowI w' w.heap.size A' c' (blk x.l) ∧ Below w.heap.size w w' := by
  have HB := Lib.hid (blocks_any B g A c x w hC hl)
  clear hC hl
  generalize x.l.length = n at *
  go_enter Try.func18, Try.ntmps18
  go_wp2_with (refine HB.out.mono ?_; rintro e w1 ⟨A1, c1, rfl, hr1, hb1⟩; have HR1 := Lib.hid hr1; have HB1 := Lib.hid hb1; clear hr1 hb1)
  go_ret
  exact ⟨A1, c1, rfl, HR1.out, HB1.out⟩
theorem waiting_nil : Calls Try.prog 18 #[.pointer none] w fun e w' => e = .returned (.slice none 0 0) ∧ w = w' := by
  go_enter Try.func18, Try.ntmps18
  go_wp2
  go_ret
  exact ⟨rfl, rfl⟩
theorem next_nil : Calls Try.prog 19 #[.pointer none] w fun e w' => e = .returned (.tuple #[.int .i64 0, .bool false]) ∧ w = w' := by
  go_enter Try.func19, Try.ntmps19
  go_wp2
  go_ret2
  exact ⟨rfl, rfl⟩
theorem next_none (hC : PAt B w g A c x) (h0 : x.l.length = 0) : Calls Try.prog 19 #[.pointer (some ⟨g, 0, none⟩)] w fun e w' => e = .returned (.tuple #[.int .i64 0, .bool false]) ∧ w = w' := by
  obtain ⟨_, _, _, _, _, cs⟩ := pcells hC
  rw [h0] at cs
  clear hC h0
  go_enter Try.func19, Try.ntmps19
  go_wp2
  go_ret2
  exact ⟨rfl, rfl⟩
theorem next_some {q : Nat} (hO : x.Ok q) (hq : q ≤ 1000) (hC : PAt B w g A c x) (h0 : 0 < x.l.length) (hB : B ≤ w.heap.size) :
    Calls Try.prog 19 #[.pointer (some ⟨g, 0, none⟩)] w fun e w' => e = .returned (.tuple #[.int .i64 x.choose.1, .bool true]) ∧ PWent B w g A x.next w' := by
  have hl : x.l.length ≤ 1000 := by have := hO.len; omega
  have hm : x.m ≤ 1000000000 := by have := hO.m1; omega
  have hage : ∀ r ∈ x.l, 0 ≤ r.a ∧ r.a ≤ 1000000000 := fun r hr => by obtain ⟨h1, h2, _⟩ := hO.age0 r hr; omega
  have hmem := Ar.choose_mem h0
  obtain ⟨hb0, hb1⟩ := hO.blk_in hmem
  have hr : ∀ b ∈ blk x.l, 0 ≤ b ∧ b < 1024 := fun b hb => hO.blk_in hb
  have same : ∀ {W W' : World} {e : Ending} {v : Value}, PAt B W g A c x → (e = .returned v ∧ Below W.heap.size W W') → (e = .returned v ∧ PWent B W g A { x with u := x.u } W') := fun h1 ⟨h2, h3⟩ => ⟨h2, A, c, h1.fresh h3, Kept.fresh h3, fun k e => .inl e⟩
  unfold Ar.next
  cases ho : oldI x.l with
  | some b =>
    have hc : x.choose = (b, decide ((x.s : Int) < b)) := by unfold Ar.choose; rw [ho]
    rw [hc] at hb0 hb1 ⊢
    exact next_old B g A c x w hC hl h0 hO.s1 hO.n0 hO.n1 hm hage b _ hb0 hb1 (by unfold choiceN; rw [ho]; rfl) hB (fun W hW => old_any B g A c x W (hC.fresh hW) hl b ho)
  | none =>
    have hi : (oldI x.l).isSome = false := by rw [ho]; rfl
    by_cases h2 : x.p = 2
    · have hc : x.choose = (bestL (nearB x.s x.n) (blk x.l), x.u) := by unfold Ar.choose; rw [ho]; simp only; rw [if_pos h2]
      rw [hc] at hb0 hb1 ⊢
      exact next_near B g A c x w hC hl h0 hO.s1 hO.n0 hO.n1 hm hage _ _ hb0 hb1 (by unfold choiceN; rw [hi, if_neg (by decide), if_pos h2]) hB (fun W hW => (near_any B g A c x W (hC.fresh hW) hl hO.s1 hO.n0 hO.n1 hr).mono fun e w' h => same (hC.fresh hW) h)
    · by_cases h3 : x.p = 3
      · have hc : x.choose = scanL x.s x.u (blk x.l) := by unfold Ar.choose; rw [ho]; simp only; rw [if_neg h2, if_pos h3]
        rw [hc] at hb0 hb1 ⊢
        exact next_scan B g A c x w hC hl h0 hO.s1 hO.n0 hO.n1 hm hage _ _ hb0 hb1 (by unfold choiceN; rw [hi, if_neg (by decide), if_neg h2, if_pos h3]) hB (fun W hW => scan_any B g A c x W (hC.fresh hW) hl)
      · by_cases h4 : x.p = 4
        · have hc : x.choose = (cycL x.s (blk x.l), x.u) := by unfold Ar.choose; rw [ho]; simp only; rw [if_neg h2, if_neg h3, if_pos h4]
          rw [hc] at hb0 hb1 ⊢
          exact next_cyclic B g A c x w hC hl h0 hO.s1 hO.n0 hO.n1 hm hage _ _ hb0 hb1 (by unfold choiceN; rw [hi, if_neg (by decide), if_neg h2, if_neg h3, if_pos h4]) hB (fun W hW => (cyclic_any B g A c x W (hC.fresh hW) hl).mono fun e w' h => same (hC.fresh hW) h)
        · have hc : x.choose = (inn (blk x.l) 0, x.u) := by unfold Ar.choose; rw [ho]; simp only; rw [if_neg h2, if_neg h3, if_neg h4]
          rw [hc] at hb0 hb1 ⊢
          exact next_fifo B g A c x w hC hl h0 hO.s1 hO.n0 hO.n1 hm hage _ _ hb0 hb1 (by unfold choiceN; rw [hi, if_neg (by decide), if_neg h2, if_neg h3, if_neg h4]) hB (fun W hW => (fifo_any B g A c x W (hC.fresh hW) h0).mono fun e w' h => same (hC.fresh hW) h)
theorem ask_nil (b : Int) : Calls Try.prog 20 #[.pointer none, .int .i64 b] w fun e w' => e = .returned (.int .i64 1) ∧ w = w' := by
  go_enter Try.func20, Try.ntmps20
  go_wp2
  go_ret
  exact ⟨rfl, rfl⟩
set_option maxRecDepth 100000 in
set_option maxHeartbeats 2000000 in
theorem ask_any (b : Int) (hC : PAt B w g A c x) (hl : x.l.length ≤ 24) (hn : 1 ≤ x.n) (hn64 : x.n ≤ 64) (hB : B ≤ w.heap.size) :
    Calls Try.prog 20 #[.pointer (some ⟨g, 0, none⟩), .int .i64 b] w fun e w' => e = .returned (.int .i64 (x.askE b)) ∧ PWent B w g A (x.ask b) w' := by
  obtain ⟨_, c1, _, _, _, c5⟩ := pcells hC
  have hg := hC.glt
  have HC := Lib.hid hC
  have Hno : Hid (∀ W, Below w.heap.size w W → PWent B w g A x W) := fun W hW => ⟨A, c, hC.fresh hW, Kept.fresh hW, fun k e => .inl e⟩
  have Hc5 : Hid (∀ W, Below w.heap.size w W → W.cell? ⟨g, 5, none⟩ = some (.slice A x.l.length c) ∧ W.frozen? ⟨g, 5, none⟩ = false ∧ g < W.heap.size) := fun W hW => ⟨(pcells (hC.fresh hW)).2.2.2.2.2, (hC.fresh hW).free 5, (hC.fresh hW).glt⟩
  have HF : Hid (∀ W, Below w.heap.size w W → Calls Try.prog 45 #[.pointer (some ⟨g, 0, none⟩), .int .i64 b] W fun e w' => e = .returned (.int .i64 (idxR x.l b)) ∧ Below w.heap.size w w') := fun W hW =>
    (find_any B g A c x b W (hC.fresh hW) (by omega)).mono fun e w' ⟨h1, h2⟩ => ⟨h1, hW.trans (h2.mono hW.size)⟩
  unfold Ar.ask
  by_cases hr : b < 0 ∨ 1024 ≤ b
  · have he : x.askE b = 2 := by unfold Ar.askE; rw [if_pos hr]
    rw [he, if_neg (by decide)]
    have HA := Lib.hid (fun W => at_no b x.n (by omega) W)
    generalize (x.n : Int) = n at *
    clear hC he hr hn hn64 hl HF
    go_enter Try.func20, Try.ntmps20
    go_wp2_with (refine (HA.out _).mono ?_; rintro e w' ⟨rfl, rfl⟩)
    go_ret
    exact ⟨rfl, Hno.out _ (Below.refl _ _)⟩
  · have hok : okB b x.n = true := by unfold okB; simp; omega
    have HA := Lib.hid (fun W => at_ok b x.n hok W)
    have hi := idxR_ge x.l b
    cases hh : hasR x.l b with
    | true =>
      have he : x.askE b = 6 := by unfold Ar.askE; rw [if_neg hr, if_pos hh]
      rw [he, if_neg (by decide)]
      have hlt : 0 ≤ idxR x.l b := by rw [hh] at hi; simpa using hi
      generalize (x.n : Int) = n at *
      generalize idxR x.l b = q at *
      clear hC he hr hn hn64 hl hi hh hok
      go_enter Try.func20, Try.ntmps20
      go_wp2_with (first
        | (go_at_call 22; refine (HA.out _).mono ?_; rintro e w1 ⟨⟨zx, zy, rfl⟩, hb1⟩; have HB1 := Lib.hid hb1; clear hb1)
        | (go_at_call 45; refine (HF.out _ HB1.out).mono ?_; rintro e w2 ⟨rfl, hb2⟩; have HB2 := Lib.hid hb2; clear hb2))
      go_ret
      exact ⟨rfl, Hno.out _ HB2.out⟩
    | false =>
      have hlt : idxR x.l b < 0 := by rw [hh] at hi; simpa using hi
      by_cases hf : 24 ≤ x.l.length
      · have he : x.askE b = 11 := by unfold Ar.askE; rw [if_neg hr, hh, if_neg (by decide), if_pos hf]
        rw [he, if_neg (by decide)]
        have hfi : (24 : Int) ≤ (x.l.length : Int) := by omega
        generalize (x.n : Int) = n at *
        generalize idxR x.l b = q at *
        generalize x.l.length = len at *
        clear hC he hr hn hn64 hl hi hh hok hf
        go_enter Try.func20, Try.ntmps20
        go_wp2_with (first
          | (go_at_call 22; refine (HA.out _).mono ?_; rintro e w1 ⟨⟨zx, zy, rfl⟩, hb1⟩; have HB1 := Lib.hid hb1; clear hb1)
          | (go_at_call 45; refine (HF.out _ HB1.out).mono ?_; rintro e w2 ⟨rfl, hb2⟩; obtain ⟨d5, e5, g5⟩ := Hc5.out _ hb2; have HB2 := Lib.hid hb2; clear hb2))
        go_ret
        exact ⟨rfl, Hno.out _ HB2.out⟩
      · have he : x.askE b = 0 := by unfold Ar.askE; rw [if_neg hr, hh, if_neg (by decide), if_neg hf]
        rw [he, if_pos rfl]
        obtain ⟨i0, hi0, hz0, hz1, hz2⟩ := info_parts infoQ
        have hfi : ¬ (24 : Int) ≤ (x.l.length : Int) := by omega
        have Happ : Hid (∀ W, Below w.heap.size w W → (W.alloc (.cells #[.int .i64 b, .int .i64 0] 74)).ownsRow B 74 2 (.slice A x.l.length c) x.l.length (flatQ x.l) ∧
            (∀ ad, some (⟨W.heap.size, 0, none⟩ : Addr) = some ad → ∀ j u, [Value.int .i64 b, .int .i64 0][j]? = some u → (W.alloc (.cells #[.int .i64 b, .int .i64 0] 74)).cell? (ad.add j) = some u) ∧ B ≤ (W.alloc (.cells #[.int .i64 b, .int .i64 0] 74)).heap.size) := fun W hW =>
          ⟨(hC.fresh (hW.alloc hW.size _)).row, fun ad e j u hu => by cases e; exact World.news_of_block (heap_alloc_new W _) j u hu, by have := hW.size; simp; omega⟩
        have Hend : Hid (∀ W A2 c2 w2, Below w.heap.size w W → w2.ownsRow B 74 2 (.slice A2 (x.l.length + 1) c2) (x.l.length + 1) (flatQ x.l ++ [.int .i64 b, .int .i64 0]) → (W.alloc (.cells #[.int .i64 b, .int .i64 0] 74)).grownBy w2 (Value.slice A x.l.length c).ownBlock →
            ((Value.slice A2 (x.l.length + 1) c2).ownBlock = (Value.slice A x.l.length c).ownBlock ∨ (Value.slice A2 (x.l.length + 1) c2).ownBlock = some (W.alloc (.cells #[.int .i64 b, .int .i64 0] 74)).heap.size) →
            w2.cell? ⟨g, 5, none⟩ = some (.slice A x.l.length c) ∧ w2.frozen? ⟨g, 5, none⟩ = false ∧ g < w2.heap.size ∧ PWent B w g A { x with l := x.l ++ [⟨b, 0⟩] } (w2.setCell ⟨g, 5, none⟩ (.slice A2 (x.l.length + 1) c2))) := fun W A2 c2 w2 hW ho hgr hor => by
          have hb1 := hW.alloc hW.size (.cells #[.int .i64 b, .int .i64 0] 74)
          have hC1 := hC.fresh hb1
          have hh2 : w2.heap[g]? = some (.cells (hP x (.slice A x.l.length c)) 67 (0, 0)) := by
            rw [hgr.block g hC1.glt (fun e => hC1.apart (by rw [← own_eq A x.l.length c]; exact e.symm))]; exact hC1.head
          have hr2 : RowQ 74 w2 B A2 c2 (x.l ++ [⟨b, 0⟩]) := by
            unfold RowQ
            rw [List.length_append, flatQ_append]
            exact ho
          obtain ⟨r, kp⟩ := laid (hd := hP) (y := { x with l := x.l ++ [⟨b, 0⟩] }) B g x rfl hh2 (fun _ => rfl) hr2 (by decide) HC.out.lo
          rw [List.length_append] at r kp
          refine ⟨cell_of_row w2 g 5 _ _ (0, 0) hh2, frozen_of_row w2 g 5 _ _ hh2, (Array.getElem?_eq_some_iff.1 hh2).1, A2, c2, r, ?_, fun k e => ?_⟩
          · refine ((Kept.fresh (S := Of g A) hb1).trans (Kept.grown (S := Of g A) hgr (fun k e => .inl (.inr (by rw [← own_eq A x.l.length c]; exact e)))) (fun k q => .inl q)).trans kp (fun k q => .inl (.inl q))
          · rw [← own_eq A2 (x.l.length + 1) c2] at e
            rcases hor with q | q
            · left; rw [← own_eq A x.l.length c, ← q]; exact e
            · right
              rw [q] at e
              have := Option.some.inj e
              have := hb1.size
              omega
        generalize (x.n : Int) = n at *
        generalize idxR x.l b = q at *
        have hlen : x.l.length ≤ 24 := hl
        have Hone : Hid (∀ u ∈ [Value.int .i64 b, .int .i64 0], u.oneCell' = true) := by intro u hu; simp at hu; rcases hu with rfl | rfl <;> rfl
        generalize hxl : ({ x with l := x.l ++ [⟨b, 0⟩] } : Ar) = xa at *
        clear hxl
        generalize flatQ x.l = fl at *
        generalize x.l.length = len at *
        clear hC he hr hn hn64 hl hi hh hok hf
        go_enter Try.func20, Try.ntmps20
        go_wp2_with (first
          | (go_at_call 22; refine (HA.out _).mono ?_; rintro e w1 ⟨⟨zx, zy, rfl⟩, hb1⟩; have HB1 := Lib.hid hb1; clear hb1)
          | (go_at_call 45; refine (HF.out _ HB1.out).mono ?_; rintro e w2 ⟨rfl, hb2⟩; obtain ⟨d5, e5, g5⟩ := Hc5.out _ hb2; have HB2 := Lib.hid hb2; clear hb2)
          | (at_builtin; refine wpList_append_src rfl (.tmp 34) (.tmp 37) 65 rfl B 74 i0 zeroQ 2 16 Try.underlying65 hi0 hz0 hz1 hz2 rfl (by decide) (.slice A len c) len fl rfl (Happ.out w2 HB2.out).1 (some ⟨w2.heap.size, 0, none⟩) 1 1 [.int .i64 b, .int .i64 0] rfl rfl (Happ.out w2 HB2.out).2.1 (by intro h; cases h) Hone.out (by unfold maxLen; omega) (by omega) (Happ.out w2 HB2.out).2.2 (len + 1) rfl ?_; intro A3 c3 w3 ho3 hg3 hor3; obtain ⟨s5, f5, l5, hfin⟩ := Hend.out w2 A3 c3 w3 HB2.out ho3 hg3 hor3; have HE := Lib.hid hfin; clear ho3 hg3 hor3 hfin))
        go_ret
        exact ⟨rfl, HE.out⟩
end
end Go.Proofs.Ytpelocpjfmmceaa
