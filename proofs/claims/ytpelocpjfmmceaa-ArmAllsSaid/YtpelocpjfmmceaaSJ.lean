/- The document's All. -/
import Derived.Test.YtpelocpjfmmceaaSC
set_option linter.unusedVariables false
set_option linter.unusedSimpArgs false
namespace Go.Proofs.Ytpelocpjfmmceaa
open Go.RowKit
set_option maxRecDepth 100000 in
set_option maxHeartbeats 4000000 in
theorem rall_any (p : Nat) (hp : p < 256) (n f : Int) (A : Option Addr) (c : Nat) (l : List Int) (w : World) (hl : l.length ≤ 1000) (hI : Ints w w.heap.size A l) :
    Calls Try.prog 16 #[.int .u8 p, .int .i64 n, .int .i64 f, .slice A l.length c] w (AllSays w p n f l) := by
  have HN := Lib.hid (rnew_any p n hp w)
  have HI := Lib.hid hI
  obtain ⟨i0, hi0, hz0, hz1, hz2⟩ := info_parts infoI
  cases hnew : newOk p n with
  | false =>
    have HX : Hid (allX p n f l = none) := by unfold Hid allX; rw [if_neg (fun q => by rw [hnew] at q; cases q.1)]
    have HE : Hid (∀ W, Below w.heap.size w W → AllSays w p n f l (.returned (.tuple #[.slice none 0 0, .int .i64 0, .int .i64 2])) W) := fun W hW => ⟨hW, .inr ⟨HX.out, rfl⟩⟩
    have HN2 : Hid (Calls Try.prog 33 #[.int .u8 p, .int .i64 n] w fun e w' => e = .returned (.pointer none) ∧ Below w.heap.size w w') := HN.out.mono fun e w' ⟨h1, h2⟩ => by
      rcases h2 with ⟨q, _⟩ | ⟨_, q⟩
      · rw [hnew] at q; cases q
      · exact ⟨q, h1⟩
    clear hnew hI HN
    go_enter Try.func16, Try.ntmps16
    go_wp2_with (go_at_call 33; refine HN2.out.mono ?_; rintro e w1 ⟨rfl, hb1⟩; have HB1 := Lib.hid hb1; clear hb1)
    go_ret3
    exact HE.out _ HB1.out
  | true =>
    have HN2 : Hid (Calls Try.prog 33 #[.int .u8 p, .int .i64 n] w fun e w' => ∃ g, e = .returned (.pointer (some ⟨g, 0, none⟩)) ∧ RAt w.heap.size w' g none 0 (fresh p n) ∧ Below w.heap.size w w') := HN.out.mono fun e w' ⟨h1, h2⟩ => by
      rcases h2 with ⟨_, g, q1, q2⟩ | ⟨q, _⟩
      · exact ⟨g, q1, q2, h1⟩
      · rw [hnew] at q; cases q
    by_cases hf0 : f < 0
    · have HE : Hid (∀ W, Below w.heap.size w W → AllSays w p n f l (.returned (.tuple #[.slice none 0 0, .int .i64 0, .int .i64 2])) W) := fun W hW => ⟨hW, .inr ⟨by unfold allX; rw [if_neg (fun q => by omega)], rfl⟩⟩
      clear hnew hI HN
      go_enter Try.func16, Try.ntmps16
      go_wp2_with (go_at_call 33; refine HN2.out.mono ?_; rintro e w1 ⟨g, rfl, hp1, hb1⟩; have HB1 := Lib.hid hb1; clear hb1 hp1)
      go_ret3
      exact HE.out _ HB1.out
    by_cases hf1 : 1024 ≤ f
    · have HE : Hid (∀ W, Below w.heap.size w W → AllSays w p n f l (.returned (.tuple #[.slice none 0 0, .int .i64 0, .int .i64 2])) W) := fun W hW => ⟨hW, .inr ⟨by unfold allX; rw [if_neg (fun q => by omega)], rfl⟩⟩
      clear hnew hI HN
      go_enter Try.func16, Try.ntmps16
      go_wp2_with (go_at_call 33; refine HN2.out.mono ?_; rintro e w1 ⟨g, rfl, hp1, hb1⟩; have HB1 := Lib.hid hb1; clear hb1 hp1)
      go_ret3
      exact HE.out _ HB1.out
    have HF : Hid (0 ≤ f ∧ f < 1024) := ⟨by omega, by omega⟩
    have hXc : newOk p n = true ∧ 0 ≤ f ∧ f < 1024 := ⟨hnew, HF.out⟩
    have HXd : Hid (allX p n f l = (askL (fresh p n) l).map (fun y => { y with s := f.toNat })) := by unfold Hid allX; rw [if_pos hXc]
    have HE : Hid (askL (fresh p n) l = none → ∀ W, Below w.heap.size w W → AllSays w p n f l (.returned (.tuple #[.slice none 0 0, .int .i64 0, .int .i64 2])) W) := fun hn W hW => ⟨hW, .inr ⟨by rw [HXd.out, hn]; rfl, rfl⟩⟩
    have HO0 := Lib.hid (fresh_ok hnew 0)
    obtain ⟨x0, hx0⟩ : ∃ x0, x0 = fresh p n := ⟨_, rfl⟩
    have Hx0l : Hid (x0.l.length = 0) := by rw [hx0]; rfl
    rw [← hx0] at HN2 HO0 HE HXd
    clear hnew hXc hx0 hI HN
    go_enter Try.func16, Try.ntmps16
    go_wp2_with (go_at_call 33; refine HN2.out.mono ?_; rintro e w1 ⟨g, rfl, hp1, hb1⟩; have HP1 := Lib.hid hp1; have HB1 := Lib.hid hb1; clear hb1 hp1)
    go_loopw [12] (fun i wr => ∃ (k : Nat) (y : Ar) (Ay : Option Addr) (cy : Nat), k ≤ l.length ∧ i = .int .i64 k ∧ Hid (askL x0 (l.take k) = some y) ∧ Hid (RAt w.heap.size wr g Ay cy y) ∧ Hid (Below w.heap.size w wr)) (fun i _ => l.length - (intOf i).toNat)
    case atStart => exact ⟨0, x0, none, 0, Nat.zero_le _, rfl, rfl, HP1.out, HB1.out⟩
    case round =>
      obtain ⟨k, y, Ay, cy, hk, rfl, hy, hP, hB⟩ := hrel
      rename World => wr
      obtain ⟨hOy, hly, hsy, hmy, hpy, hny, huy⟩ := Ar.Ok.askL _ _ _ HO0.out hy.out
      have HOy := Lib.hid hOy
      have hgy := hP.out.glt
      by_cases hlt : k < l.length
      · have hlti : (k : Int) < (l.length : Int) := by omega
        have hk0 : (0 : Int) ≤ (k : Int) := by omega
        obtain ⟨bb, off, hA2, hbb, hcc⟩ := HI.out.at_ hlt
        subst hA2
        have hck := (hB.out.cell (p := ⟨bb, off + k, none⟩) hbb).trans hcc
        have HAsk := Lib.hid (rask_any w.heap.size g Ay cy y (inn l k) wr hP.out hOy.len hB.out.size)
        have Hst : Hid (askL x0 (l.take (k + 1)) = if y.askE (inn l k) = 0 then some (y.ask (inn l k)) else none) := by unfold Hid; rw [take_inn hlt, askL_append, hy.out]; rfl
        clear hcc hOy hly hsy hmy hpy hny huy
        generalize inn l k = xb at *
        by_cases he : y.askE xb = 0
        · have Hst2 : Hid (askL x0 (l.take (k + 1)) = some (y.ask xb)) := by unfold Hid; rw [Hst.out, if_pos he]
          rw [he] at HAsk
          clear he Hst
          go_wp2_with (refine HAsk.out.mono ?_; rintro e w3 ⟨rfl, A3, c3, h3, k3, o3⟩; have H3 := Lib.hid h3; have K3 := Lib.hid k3; clear h3 k3 o3)
          go_roundw
          case rel => exact ⟨k + 1, _, A3, c3, by omega, by go_num, Hst2.out, H3.out, hB.out.trans (Went.below hP.out hB.out.size K3.out)⟩
          case measure => simp [intOf]; omega
        · have Hst2 : Hid (askL x0 l = none) := by unfold Hid; exact askL_none (k := k + 1) (by rw [Hst.out, if_neg he])
          have heb : (y.askE xb != 0) = true := by simpa using he
          generalize y.askE xb = ee at *
          clear he Hst
          go_wp2_with (refine HAsk.out.mono ?_; rintro e w3 ⟨rfl, A3, c3, h3, k3, o3⟩; have K3 := Lib.hid k3; clear h3 k3 o3)
          go_ret3
          exact HE.out Hst2.out _ (hB.out.trans (Went.below hP.out hB.out.size K3.out))
      · obtain rfl : k = l.length := by omega
        have hlti : ¬ (l.length : Int) < (l.length : Int) := by omega
        rw [List.take_length] at hy
        obtain ⟨z, hz⟩ : ∃ z, z = ({ y with s := f.toNat } : Ar) := ⟨_, rfl⟩
        have HXz : Hid (allX p n f l = some z) := by unfold Hid; rw [HXd.out, hy.out, hz]; rfl
        have HOz : Hid (z.Ok 0) := by unfold Hid; rw [hz]; exact HOy.out.moved HF.out.1 HF.out.2
        have Hzl : Hid (z.l.length ≤ 24) := HOz.out.len
        have Hzn : z.l.length = l.length := by rw [List.take_length] at hly; rw [hz]; show y.l.length = _; rw [hly, Hx0l.out]; omega
        have hs5 := rcells hP.out
        have hfr := hP.out.free 2
        have HPz : Hid (RAt w.heap.size (wr.setCell ⟨g, 2, none⟩ (.int .i64 f)) g Ay cy z ∧ Below w.heap.size w (wr.setCell ⟨g, 2, none⟩ (.int .i64 f))) := by
          obtain ⟨r, kp⟩ := field w.heap.size g Ay cy y wr (y := z) (j := 2) (v := .int .i64 f) hP.out (by rw [hz]) (fun v => by
            rw [hz]
            show (Go.Proofs.Ytpelocpjfmmceaa.hR y v).setIfInBounds 2 _ = #[.int .u8 y.p, .int .i64 y.n, .int .i64 (f.toNat : Int), .bool (!y.u), .int .i64 y.m, v]
            rw [show ((f.toNat : Int)) = f by have := HF.out.1; omega]; rfl)
          exact ⟨r, hB.out.trans (kp.below (fun b q => by rw [q]; exact hP.out.lo) hB.out.size)⟩
        obtain ⟨_, _, u2, _, _, _⟩ := hs5
        clear hOy hly hsy hmy hpy hny huy hz hP hB HOy
        obtain ⟨N, hN⟩ : ∃ N, N = z.l.length := ⟨_, rfl⟩
        rw [← hN] at Hzl Hzn
        have HNx : Hid (∀ (k : Nat) W A2 c2, RAt w.heap.size W g A2 c2 (stA z k) → Below w.heap.size w W → k < N → Calls Try.prog 40 #[.pointer (some ⟨g, 0, none⟩)] W fun e w' => e = .returned (.tuple #[.int .i64 (stA z k).choose.1, .bool true]) ∧ RWent w.heap.size W g A2 (stA z (k + 1)) w') := fun k W A2 c2 h1 h2 h3 => by
          obtain ⟨o1, o2⟩ := HOz.out.st k (by omega)
          exact rnext_some w.heap.size g A2 c2 _ W o1 (by have := Hzl.out; omega) h1 (by omega) h2.size
        have HEnd : Hid (∀ W A' c', Below w.heap.size w W → RowI W w.heap.size A' c' (goL z N) → AllSays w p n f l (.returned (.tuple #[.slice A' N c', .int .i64 (stA z N).m, .int .i64 0])) W) := fun W A' c' h1 h2 => ⟨h1, .inl ⟨z, A', c', HXz.out, by rw [hN], by rw [hN] at h2; exact h2⟩⟩
        have hgz := HPz.out.1.glt
        have hN24 : l.length ≤ 24 := by have := Hzl.out; omega
        clear hN HE HXd
        subst Hzn
        go_wp2_with fail
        go_loopw [13, 14] (fun s i wr => ∃ (k : Nat) (A' : Option Addr) (c' : Nat) (A2 : Option Addr) (c2 : Nat), k ≤ l.length ∧ i = .int .i64 k ∧ s = .slice A' k c' ∧ Hid (wr.ownsRow w.heap.size 3 1 (.slice A' k c') k (intsV (goL z k))) ∧ Hid (Below w.heap.size w wr) ∧ Hid (RAt w.heap.size wr g A2 c2 (stA z k))) (fun _ i _ => l.length - (intOf i).toNat)
        case atStart => exact ⟨0, none, 0, Ay, cy, Nat.zero_le _, rfl, rfl, World.ownsRow_nil _ _ _ _, HPz.out.2, HPz.out.1⟩
        case round =>
          obtain ⟨k, A', c', A4, c4, hk, rfl, rfl, hrow, hB, hP⟩ := hrel
          rename World => wr2
          have hk0 : (0 : Int) ≤ (k : Int) := by omega
          by_cases hkl : k < l.length
          · have hki : (k : Int) < (l.length : Int) := by omega
            have HNk := Lib.hid (HNx.out k wr2 A4 c4 hP.out hB.out hkl)
            have Hst : Hid (intsV (goL z k) ++ [.int .i64 (stA z k).choose.1] = intsV (goL z (k + 1))) := by unfold Hid; rw [goL, intsV_append]; rfl
            have Hrow : Hid (∀ w6, RWent w.heap.size wr2 g A4 (stA z (k + 1)) w6 → (w6.alloc (.cells #[.int .i64 (stA z k).choose.1] 3)).ownsRow w.heap.size 3 1 (.slice A' k c') k (intsV (goL z k)) ∧ w.heap.size ≤ w6.heap.size) := fun w6 ⟨A6, c6, h6, k6, o6⟩ => by
              have hI : RowI wr2 w.heap.size A' c' (goL z k) := by unfold RowI; rw [length_goL]; exact hrow.out
              have h2 := hI.keep k6 (fun j e q => not_of hI hP.out (by decide) (by decide) j e q)
              unfold RowI at h2
              rw [length_goL] at h2
              exact ⟨h2.alloc _, Nat.le_trans hB.out.size k6.size⟩
            have Hnew : Hid (∀ (w6 : World) ad, some (⟨w6.heap.size, 0, none⟩ : Addr) = some ad → ∀ j u, [Value.int .i64 (stA z k).choose.1][j]? = some u → (w6.alloc (.cells #[.int .i64 (stA z k).choose.1] 3)).cell? (ad.add j) = some u) := fun w6 ad e j u hu => by
              cases e
              exact World.news_of_block (heap_alloc_new w6 (.cells #[.int .i64 (stA z k).choose.1] 3)) j u hu
            have Haft : Hid (∀ w6 A7 c7 w7, RWent w.heap.size wr2 g A4 (stA z (k + 1)) w6 → w7.ownsRow w.heap.size 3 1 (.slice A7 (k + 1) c7) (k + 1) (intsV (goL z k) ++ [.int .i64 (stA z k).choose.1]) → (w6.alloc (.cells #[.int .i64 (stA z k).choose.1] 3)).grownBy w7 (Value.slice A' k c').ownBlock → ∃ A6 c6, RAt w.heap.size w7 g A6 c6 (stA z (k + 1)) ∧ Below w.heap.size w w7 ∧ w7.ownsRow w.heap.size 3 1 (.slice A7 (k + 1) c7) (k + 1) (intsV (goL z (k + 1)))) := fun w6 A7 c7 w7 hw h7 hg => by
              obtain ⟨A6, c6, h6, k6, o6⟩ := hw
              have hI : RowI wr2 w.heap.size A' c' (goL z k) := by unfold RowI; rw [length_goL]; exact hrow.out
              have hI6 := hI.keep k6 (fun j e q => not_of hI hP.out (by decide) (by decide) j e q)
              have hb6 : Below w6.heap.size w6 (w6.alloc (.cells #[.int .i64 (stA z k).choose.1] 3)) := (Below.refl _ _).alloc (Nat.le_refl _) _
              have hI6a := hI6.fresh hb6
              have h6a := h6.fresh hb6
              have hB6 : Below w.heap.size w (w6.alloc (.cells #[.int .i64 (stA z k).choose.1] 3)) := (hB.out.trans (Went.below hP.out hB.out.size k6)).alloc (Nat.le_trans hB.out.size k6.size) _
              have hk7 : Kept (w6.alloc (.cells #[.int .i64 (stA z k).choose.1] 3)) w7 (fun b => own A' = some b) := Kept.grown hg (fun j e => .inl (by rw [← own_eq A' k c']; exact e))
              refine ⟨A6, c6, h6a.keepOf hk7 (fun j q e => not_of hI6a h6a (by decide) (by decide) j e q), hB6.grown hg (Nat.le_trans hB.out.size (Nat.le_trans k6.size hb6.size)) (fun j e => ?_), by rw [← Hst.out]; exact h7⟩
              rw [own_eq] at e
              exact (hI.lt j e).1
            generalize (stA z k).choose.1 = bb at *
            clear Hst hP
            go_wp2_with (first
              | (go_at_call 40; refine HNk.out.mono ?_; rintro e w6 ⟨rfl, hw6⟩; obtain ⟨hr6, hz6⟩ := Hrow.out w6 hw6; have HR6 := Lib.hid hr6; have HZ6 := Lib.hid hz6; have HN6 := Lib.hid (Hnew.out w6); have HA6 := Lib.hid (fun A7 c7 w7 => Haft.out w6 A7 c7 w7 hw6); clear hw6 hr6 hz6)
              | (at_builtin; refine wpList_append_src rfl (.tmp 58) (.tmp 60) 31 rfl w.heap.size 3 i0 (.int .i64 0) 1 8 Try.underlying31 hi0 hz0 hz1 hz2 rfl (by decide) (.slice A' k c') k (intsV (goL z k)) rfl HR6.out (some ⟨w6.heap.size, 0, none⟩) 1 1 [.int .i64 bb] rfl rfl HN6.out (by intro h; cases h) (by intro u hu; simp at hu; subst hu; rfl) (by unfold maxLen; omega) (by omega) (by have := HZ6.out; simp; omega) (k + 1) rfl ?_; intro A7 c7 w7 ho7 hg7 hor7; obtain ⟨A8, c8, b1, b3, b5⟩ := HA6.out A7 c7 w7 ho7 hg7; have G1 := Lib.hid b1; have G3 := Lib.hid b3; have G5 := Lib.hid b5; clear ho7 hg7 hor7 b1 b3 b5))
            go_roundw
            case rel => exact ⟨k + 1, A7, c7, A8, c8, by omega, by go_num, rfl, G5.out, G3.out, G1.out⟩
            case measure => simp [intOf]; omega
          · obtain rfl : k = l.length := by omega
            obtain ⟨_, _, _, _, u4, _⟩ := rcells hP.out
            have hgg := hP.out.glt
            have HF2 : Hid (∀ q, AllSays w p n f l (.returned (.tuple #[.slice A' l.length c', .int .i64 (stA z l.length).m, .int .i64 0])) (wr2.drewN q)) := fun q => HEnd.out _ A' c' (bdn hB.out q) (by have := hrow.out; unfold RowI; rw [length_goL]; exact this)
            clear hP
            go_wp2
            go_quiet (fail)
            go_wp2
            go_ret3
            exact HF2.out _
end Go.Proofs.Ytpelocpjfmmceaa
