/- The program's All. -/
import Derived.Test.YtpelocpjfmmceaaSB
import Derived.Test.YtpelocpjfmmceaaA5
set_option linter.unusedVariables false
set_option linter.unusedSimpArgs false
namespace Go.Proofs.Ytpelocpjfmmceaa
open Go.RowKit

theorem not_of {hd : Ar → Value → Array Value} {T E : TypeId} {B B2 g ci c : Nat} {A Ai : Option Addr} {x : Ar} {li : List Int} {w : World} (hI : RowI w B2 Ai ci li) (hA : ArmAt hd T E B w g A c x) (h1 : T ≠ 3) (h2 : E ≠ 3) : ∀ k, own Ai = some k → ¬ Of g A k := by
  intro k e q
  rcases hI.2 with ⟨z, _⟩ | ⟨k2, cap, cur, z, _, hk, _⟩
  · obtain ⟨rfl, _⟩ := Value.slice.inj z; cases e
  · obtain ⟨rfl, _⟩ := Value.slice.inj z
    obtain rfl : k2 = k := by simpa [own] using e
    rcases q with q | q
    · subst q
      have := hA.head.symm.trans hk
      simp at this
      exact h1 this.2
    · rcases hA.row.2 with ⟨z, _⟩ | ⟨k3, cap3, cur3, z, _, hk3, _⟩
      · obtain ⟨rfl, _⟩ := Value.slice.inj z; cases q
      · obtain ⟨rfl, _⟩ := Value.slice.inj z
        obtain rfl : k3 = k2 := by simpa [own] using q
        have := hk3.symm.trans hk
        simp at this
        exact h2 this.2
/-- what All asks an arm for -/
def allX (p : Nat) (n f : Int) (l : List Int) : Option Ar := if newOk p n = true ∧ 0 ≤ f ∧ f < 1024 then (askL (fresh p n) l).map (fun y => { y with s := f.toNat }) else none
def AllSays (w : World) (p : Nat) (n f : Int) (l : List Int) (e : Ending) (w' : World) : Prop :=
  Below w.heap.size w w' ∧ ((∃ y A' c', allX p n f l = some y ∧ e = .returned (.tuple #[.slice A' y.l.length c', .int .i64 (stA y y.l.length).m, .int .i64 0]) ∧ RowI w' w.heap.size A' c' (goL y y.l.length)) ∨ (allX p n f l = none ∧ e = .returned (.tuple #[.slice none 0 0, .int .i64 0, .int .i64 2])))
theorem Ar.Ok.moved {y : Ar} (h : y.Ok 0) {f : Int} (h0 : 0 ≤ f) (h1 : f < 1024) : ({ y with s := f.toNat } : Ar).Ok 0 :=
  ⟨h.p0, h.p1, h.n0, h.n1, by show f.toNat < 1024; omega, h.m1, h.len, h.rng, h.nd, fun r hr => by obtain ⟨a1, a2, _⟩ := h.age0 r hr; exact ⟨a1, a2, fun q => by omega⟩⟩
theorem allX_ok {p : Nat} {n f : Int} {l : List Int} {y : Ar} (h : allX p n f l = some y) : y.Ok 0 ∧ y.l.length = l.length ∧ l.length ≤ 24 := by
  unfold allX at h
  by_cases hc : newOk p n = true ∧ 0 ≤ f ∧ f < 1024
  · rw [if_pos hc, Option.map_eq_some_iff] at h
    obtain ⟨z, hz, rfl⟩ := h
    obtain ⟨h1, h2, _⟩ := Ar.Ok.askL l _ _ (fresh_ok hc.1 0) hz
    refine ⟨h1.moved hc.2.1 hc.2.2, by show z.l.length = _; rw [h2]; show 0 + _ = _; omega, ?_⟩
    have := h1.len
    rw [h2] at this
    have h0 : (fresh p n).l.length = 0 := rfl
    omega
  · rw [if_neg hc] at h; cases h
theorem Went.below {hd : Ar → Value → Array Value} {T E : TypeId} {B g c : Nat} {A : Option Addr} {x : Ar} {w w' : World} (h : ArmAt hd T E B w g A c x) (hB : B ≤ w.heap.size) (hk : Kept w w' (Of g A)) : Below B w w' := hk.below (fun b q => h.low b q) hB
set_option maxRecDepth 100000 in
set_option maxHeartbeats 4000000 in
theorem all_any (p : Nat) (hp : p < 256) (n f : Int) (A : Option Addr) (c : Nat) (l : List Int) (w : World) (hl : l.length ≤ 1000) (hI : Ints w w.heap.size A l) :
    Calls Try.prog 14 #[.int .u8 p, .int .i64 n, .int .i64 f, .slice A l.length c] w (AllSays w p n f l) := by
  have HN := Lib.hid (new_any p n hp w)
  have HI := Lib.hid hI
  obtain ⟨i0, hi0, hz0, hz1, hz2⟩ := info_parts infoI
  by_cases hok : okB f n = true
  · have hf : (0 ≤ f ∧ f < 1024) ∧ 1 ≤ n ∧ n ≤ 64 := by unfold okB at hok; simp at hok; omega
    have HA := Lib.hid (fun W => at_ok f n hok W)
    cases hnew : newOk p n with
    | false =>
      have HX : Hid (allX p n f l = none) := by unfold Hid allX; rw [if_neg (fun q => by rw [hnew] at q; cases q.1)]
      have HE : Hid (∀ W, Below w.heap.size w W → AllSays w p n f l (.returned (.tuple #[.slice none 0 0, .int .i64 0, .int .i64 2])) W) := fun W hW => ⟨hW, .inr ⟨HX.out, rfl⟩⟩
      have HN2 : Hid (Calls Try.prog 32 #[.int .u8 p, .int .i64 n] w fun e w' => e = .returned (.pointer none) ∧ Below w.heap.size w w') := HN.out.mono fun e w' ⟨h1, h2⟩ => by
        rcases h2 with ⟨q, _⟩ | ⟨_, q⟩
        · rw [hnew] at q; cases q
        · exact ⟨q, h1⟩
      clear hok hf hnew hI HN
      go_enter Try.func14, Try.ntmps14
      go_wp2_with (first
        | (go_at_call 32; refine HN2.out.mono ?_; rintro e w1 ⟨rfl, hb1⟩; have HB1 := Lib.hid hb1; clear hb1)
        | (go_at_call 22; refine (HA.out _).mono ?_; rintro e w2 ⟨⟨zx, zy, rfl⟩, hb2⟩; have HB2 := Lib.hid (HB1.out.trans (hb2.mono HB1.out.size)); clear hb2))
      go_ret3
      exact HE.out _ HB2.out
    | true =>
      have hXc : newOk p n = true ∧ 0 ≤ f ∧ f < 1024 := ⟨hnew, hf.1.1, hf.1.2⟩
      have HXd : Hid (allX p n f l = (askL (fresh p n) l).map (fun y => { y with s := f.toNat })) := by unfold Hid allX; rw [if_pos hXc]
      have HE : Hid (askL (fresh p n) l = none → ∀ W, Below w.heap.size w W → AllSays w p n f l (.returned (.tuple #[.slice none 0 0, .int .i64 0, .int .i64 2])) W) := fun hn W hW => ⟨hW, .inr ⟨by rw [HXd.out, hn]; rfl, rfl⟩⟩
      have HO0 := Lib.hid (fresh_ok hnew 0)
      have HN2 : Hid (Calls Try.prog 32 #[.int .u8 p, .int .i64 n] w fun e w' => ∃ g, e = .returned (.pointer (some ⟨g, 0, none⟩)) ∧ PAt w.heap.size w' g none 0 (fresh p n) ∧ Below w.heap.size w w') := HN.out.mono fun e w' ⟨h1, h2⟩ => by
        rcases h2 with ⟨_, g, q1, q2⟩ | ⟨q, _⟩
        · exact ⟨g, q1, q2, h1⟩
        · rw [hnew] at q; cases q
      have HF := Lib.hid hf.1
      obtain ⟨x0, hx0⟩ : ∃ x0, x0 = fresh p n := ⟨_, rfl⟩
      have Hx0l : Hid (x0.l.length = 0) := by rw [hx0]; rfl
      rw [← hx0] at HN2 HO0 HE HXd
      clear hok hf hnew hXc hx0 hI HN
      go_enter Try.func14, Try.ntmps14
      go_wp2_with (first
        | (go_at_call 32; refine HN2.out.mono ?_; rintro e w1 ⟨g, rfl, hp1, hb1⟩; have HP1 := Lib.hid hp1; have HB1 := Lib.hid hb1; clear hb1 hp1)
        | (go_at_call 22; refine (HA.out _).mono ?_; rintro e w2 ⟨⟨zx, zy, rfl⟩, hb2⟩; have HP2 := Lib.hid (HP1.out.fresh hb2); have HB2 := Lib.hid (HB1.out.trans (hb2.mono HB1.out.size)); clear hb2))
      go_loopw [36] (fun i wr => ∃ (k : Nat) (y : Ar) (Ay : Option Addr) (cy : Nat), k ≤ l.length ∧ i = .int .i64 k ∧ Hid (askL x0 (l.take k) = some y) ∧ Hid (PAt w.heap.size wr g Ay cy y) ∧ Hid (Below w.heap.size w wr)) (fun i _ => l.length - (intOf i).toNat)
      case atStart => exact ⟨0, x0, none, 0, Nat.zero_le _, rfl, rfl, HP2.out, HB2.out⟩
      case round =>
        obtain ⟨k, y, Ay, cy, hk, rfl, hy, hP, hB⟩ := hrel
        rename World => wr
        obtain ⟨hOy, hly, hsy, hmy, hpy, hny, huy⟩ := Ar.Ok.askL _ _ _ HO0.out hy.out
        have HOy := Lib.hid hOy
        have hgy := hP.out.glt
        by_cases hlt : k < l.length
        · have hlti : (k : Int) < (l.length : Int) := by omega
          have hk0 : (0 : Int) ≤ (k : Int) := by omega
          obtain ⟨bb, off, hA2, hbb, hcc⟩ := HI.out.at_ hlt
          subst hA2
          have hck := (hB.out.cell (p := ⟨bb, off + k, none⟩) hbb).trans hcc
          have HAsk := Lib.hid (ask_any w.heap.size g Ay cy y wr (inn l k) hP.out hOy.len hOy.n0 hOy.n1 hB.out.size)
          have Hst : Hid (askL x0 (l.take (k + 1)) = if y.askE (inn l k) = 0 then some (y.ask (inn l k)) else none) := by unfold Hid; rw [take_inn hlt, askL_append, hy.out]; rfl
          clear hcc hOy hly hsy hmy hpy hny huy
          generalize inn l k = xb at *
          by_cases he : y.askE xb = 0
          · have Hst2 : Hid (askL x0 (l.take (k + 1)) = some (y.ask xb)) := by unfold Hid; rw [Hst.out, if_pos he]
            rw [he] at HAsk
            clear he Hst
            go_wp2_with (refine HAsk.out.mono ?_; rintro e w3 ⟨rfl, A3, c3, h3, k3, o3⟩; have H3 := Lib.hid h3; have K3 := Lib.hid k3; clear h3 k3 o3)
            go_roundw
            case rel => exact ⟨k + 1, _, A3, c3, by omega, by go_num, Hst2.out, H3.out, hB.out.trans (Went.below hP.out hB.out.size K3.out)⟩
            case measure => simp [intOf]; omega
          · have Hst2 : Hid (askL x0 l = none) := by unfold Hid; exact askL_none (k := k + 1) (by rw [Hst.out, if_neg he])
            have heb : (y.askE xb != 0) = true := by simpa using he
            generalize y.askE xb = ee at *
            clear he Hst
            go_wp2_with (refine HAsk.out.mono ?_; rintro e w3 ⟨rfl, A3, c3, h3, k3, o3⟩; have K3 := Lib.hid k3; clear h3 k3 o3)
            go_ret3
            exact HE.out Hst2.out _ (hB.out.trans (Went.below hP.out hB.out.size K3.out))
        · obtain rfl : k = l.length := by omega
          have hlti : ¬ (l.length : Int) < (l.length : Int) := by omega
          rw [List.take_length] at hy
          obtain ⟨z, hz⟩ : ∃ z, z = ({ y with s := f.toNat } : Ar) := ⟨_, rfl⟩
          have HXz : Hid (allX p n f l = some z) := by unfold Hid; rw [HXd.out, hy.out, hz]; rfl
          have HOz : Hid (z.Ok 0) := by unfold Hid; rw [hz]; exact HOy.out.moved HF.out.1 HF.out.2
          have Hzl : Hid (z.l.length ≤ 24) := HOz.out.len
          have hs5 := pcells hP.out
          have hfr := hP.out.free 2
          have HPz : Hid (PAt w.heap.size (wr.setCell ⟨g, 2, none⟩ (.int .i64 f)) g Ay cy z ∧ Below w.heap.size w (wr.setCell ⟨g, 2, none⟩ (.int .i64 f))) := by
            obtain ⟨r, kp⟩ := field w.heap.size g Ay cy y wr (y := z) (j := 2) (v := .int .i64 f) hP.out (by rw [hz]) (fun v => by
              rw [hz]
              show (Go.Proofs.Ytpelocpjfmmceaa.hP y v).setIfInBounds 2 _ = #[.int .u8 y.p, .int .i64 y.n, .int .i64 (f.toNat : Int), .int .i64 y.m, .bool y.u, v]
              rw [show ((f.toNat : Int)) = f by have := HF.out.1; omega]; rfl)
            exact ⟨r, hB.out.trans (kp.below (fun b q => by rw [q]; exact hP.out.lo) hB.out.size)⟩
          obtain ⟨_, _, u2, _, _, _⟩ := hs5
          clear hOy hly hsy hmy hpy hny huy hz hP hB HOy
          obtain ⟨N, hN⟩ : ∃ N, N = z.l.length := ⟨_, rfl⟩
          rw [← hN] at Hzl
          have HNx : Hid (∀ (k : Nat) W A2 c2, PAt w.heap.size W g A2 c2 (stA z k) → Below w.heap.size w W → k < N → Calls Try.prog 19 #[.pointer (some ⟨g, 0, none⟩)] W fun e w' => e = .returned (.tuple #[.int .i64 (stA z k).choose.1, .bool true]) ∧ PWent w.heap.size W g A2 (stA z (k + 1)) w') := fun k W A2 c2 h1 h2 h3 => by
            obtain ⟨o1, o2⟩ := HOz.out.st k (by omega)
            exact next_some w.heap.size g A2 c2 _ W o1 (by have := Hzl.out; omega) h1 (by omega) h2.size
          have HN0 : Hid (∀ W A2 c2, PAt w.heap.size W g A2 c2 (stA z N) → Calls Try.prog 19 #[.pointer (some ⟨g, 0, none⟩)] W fun e w' => e = .returned (.tuple #[.int .i64 0, .bool false]) ∧ W = w') := fun W A2 c2 h1 => by
            obtain ⟨o1, o2⟩ := HOz.out.st N (by omega)
            exact next_none w.heap.size g A2 c2 _ W h1 (by omega)
          have HEnd : Hid (∀ W A' c', Below w.heap.size w W → RowI W w.heap.size A' c' (goL z N) → AllSays w p n f l (.returned (.tuple #[.slice A' N c', .int .i64 (stA z N).m, .int .i64 0])) W) := fun W A' c' h1 h2 => ⟨h1, .inl ⟨z, A', c', HXz.out, by rw [hN], by rw [hN] at h2; exact h2⟩⟩
          clear hN HE HXd
          have hgz := HPz.out.1.glt
          go_upto_region 13 with fail
          clear u2 hfr
          -- the first turn
          go_cut [17, 18] from 49 to 53 (fun s17 s18 wx => ∃ (A2 : Option Addr) (c2 : Nat), Hid (Below w.heap.size w wx) ∧ ((0 < N ∧ s17 = .int .i64 (stA z 0).choose.1 ∧ s18 = .bool true ∧ Hid (PAt w.heap.size wx g A2 c2 (stA z 1))) ∨ (N = 0 ∧ s17 = .int .i64 0 ∧ s18 = .bool false ∧ Hid (PAt w.heap.size wx g A2 c2 (stA z N)))))
          case first =>
            by_cases h0 : 0 < N
            · go_wp2_with (refine (HNx.out 0 _ _ _ HPz.out.1 HPz.out.2 h0).mono ?_; rintro e w3 ⟨rfl, A3, c3, h3, k3, o3⟩; have H3 := Lib.hid h3; have K3 := Lib.hid k3; clear h3 k3 o3)
              go_meet
              exact ⟨A3, c3, HPz.out.2.trans (Went.below HPz.out.1 HPz.out.2.size K3.out), .inl ⟨h0, rfl, rfl, H3.out⟩⟩
            · obtain rfl : N = 0 := by omega
              go_wp2_with (refine (HN0.out _ _ _ HPz.out.1).mono ?_; rintro e w3 ⟨rfl, rfl⟩)
              go_meet
              exact ⟨_, _, HPz.out.2, .inr ⟨trivial, rfl, rfl, HPz.out.1⟩⟩
          case rest =>
            obtain ⟨A2, c2, hB2, hcs⟩ := hcut
            rename World => wx
            go_wp2_with fail
            go_loopw [16, 17, 18] (fun s b t wr => ∃ (k : Nat) (A' : Option Addr) (c' : Nat) (A2 : Option Addr) (c2 : Nat), k ≤ N ∧ s = .slice A' k c' ∧ Hid (wr.ownsRow w.heap.size 3 1 (.slice A' k c') k (intsV (goL z k))) ∧ Hid (Below w.heap.size w wr) ∧ ((k < N ∧ b = .int .i64 (stA z k).choose.1 ∧ t = .bool true ∧ Hid (PAt w.heap.size wr g A2 c2 (stA z (k + 1)))) ∨ (k = N ∧ b = .int .i64 0 ∧ t = .bool false ∧ Hid (PAt w.heap.size wr g A2 c2 (stA z N))))) (fun s _ _ _ => N - (match s with | .slice _ n _ => n | _ => 0))
            case atStart => exact ⟨0, none, 0, A2, c2, Nat.zero_le _, rfl, World.ownsRow_nil _ _ _ _, hB2.out, by rcases hcs with ⟨q1, q2, q3, q4⟩ | ⟨q1, q2, q3, q4⟩; exact .inl ⟨q1, q2, q3, q4⟩; exact .inr ⟨q1.symm, q2, q3, q4⟩⟩
            case round =>
              obtain ⟨k, A', c', A4, c4, hk, rfl, hrow, hB, hcs2⟩ := hrel
              rename World => wr2
              rcases hcs2 with ⟨hkN, rfl, rfl, hP⟩ | ⟨rfl, rfl, rfl, hP⟩
              · have hzz := hB.out.size
                have Hst : Hid (intsV (goL z k) ++ [.int .i64 (stA z k).choose.1] = intsV (goL z (k + 1))) := by unfold Hid; rw [goL, intsV_append]; rfl
                obtain ⟨bb, hbb⟩ : ∃ bb, bb = (stA z k).choose.1 := ⟨_, rfl⟩
                rw [← hbb] at Hst ⊢
                have Hrow : Hid ((wr2.alloc (.cells #[.int .i64 bb] 3)).ownsRow w.heap.size 3 1 (.slice A' k c') k (intsV (goL z k))) := hrow.out.alloc _
                have Hnew : Hid (∀ ad, some (⟨wr2.heap.size, 0, none⟩ : Addr) = some ad → ∀ j u, [Value.int .i64 bb][j]? = some u → (wr2.alloc (.cells #[.int .i64 bb] 3)).cell? (ad.add j) = some u) := fun ad e j u hu => by
                  cases e
                  exact World.news_of_block (heap_alloc_new wr2 (.cells #[.int .i64 bb] 3)) j u hu
                have Hafter : Hid (∀ A5 c5 w5, w5.ownsRow w.heap.size 3 1 (.slice A5 (k + 1) c5) (k + 1) (intsV (goL z k) ++ [.int .i64 bb]) → (wr2.alloc (.cells #[.int .i64 bb] 3)).grownBy w5 (Value.slice A' k c').ownBlock → PAt w.heap.size w5 g A4 c4 (stA z (k + 1)) ∧ Below w.heap.size w w5 ∧ RowI w5 w.heap.size A5 c5 (goL z (k + 1))) := fun A5 c5 w5 h1 h2 => by
                  have hP1 := hP.out.fresh ((Below.refl _ _).alloc (Nat.le_refl wr2.heap.size) (.cells #[.int .i64 bb] 3))
                  have hI5 : RowI w5 w.heap.size A5 c5 (goL z (k + 1)) := by unfold RowI; rw [length_goL, ← Hst.out]; exact h1
                  have hI4 : RowI (wr2.alloc (.cells #[.int .i64 bb] 3)) w.heap.size A' c' (goL z k) := by unfold RowI; rw [length_goL]; exact Hrow.out
                  refine ⟨hP1.keepOf (S := fun b => own A' = some b) (Kept.grown h2 (fun j e => .inl (by rw [← own_eq A' k c']; exact e))) (fun j q e => not_of hI4 hP1 (by decide) (by decide) j e q), ?_, hI5⟩
                  exact (hB.out.alloc hB.out.size _).grown h2 (by simp; omega) (fun j e => (hrow.out.lt j e).1)
                clear hbb
                have hnm : N ≤ 24 := Hzl.out
                by_cases hk1 : k + 1 < N
                · go_wp2_with (first
                    | (at_builtin; refine wpList_append_src rfl (.tmp 60) (.tmp 62) 31 rfl w.heap.size 3 i0 (.int .i64 0) 1 8 Try.underlying31 hi0 hz0 hz1 hz2 rfl (by decide) (.slice A' k c') k (intsV (goL z k)) rfl Hrow.out (some ⟨wr2.heap.size, 0, none⟩) 1 1 [.int .i64 bb] rfl rfl Hnew.out (by intro h; cases h) (by intro u hu; simp at hu; subst hu; rfl) (by unfold maxLen; omega) (by omega) (by simp; omega) (k + 1) rfl ?_; intro A5 c5 w5 ho5 hg5 hor5; obtain ⟨a1, a2, a3⟩ := Hafter.out A5 c5 w5 ho5 hg5; have HP5 := Lib.hid a1; have HB5 := Lib.hid a2; have HR5 := Lib.hid a3; clear ho5 hg5 hor5 a1 a2 a3)
                    | (go_at_call 19; refine (HNx.out (k + 1) _ _ _ HP5.out HB5.out hk1).mono ?_; rintro e w6 ⟨rfl, A6, c6, h6, k6, o6⟩; have H6 := Lib.hid h6; have HB6 := Lib.hid (HB5.out.trans (Went.below HP5.out HB5.out.size k6)); have HR6 := Lib.hid (HR5.out.keep k6 (fun j e q => not_of HR5.out HP5.out (by decide) (by decide) j e q)); clear h6 k6 o6))
                  go_roundw
                  case rel => exact ⟨k + 1, A5, c5, A6, c6, by omega, rfl, by have := HR6.out; unfold RowI at this; rw [length_goL] at this; exact this, HB6.out, .inl ⟨hk1, rfl, rfl, H6.out⟩⟩
                  case measure => simp; omega
                · have hkN2 : k + 1 = N := by omega
                  have HkN := Lib.hid hkN2
                  have HP5' : Hid (∀ W, PAt w.heap.size W g A4 c4 (stA z (k + 1)) → PAt w.heap.size W g A4 c4 (stA z N)) := fun W h => by rw [← HkN.out]; exact h
                  clear hkN2 hk1
                  go_wp2_with (first
                    | (at_builtin; refine wpList_append_src rfl (.tmp 60) (.tmp 62) 31 rfl w.heap.size 3 i0 (.int .i64 0) 1 8 Try.underlying31 hi0 hz0 hz1 hz2 rfl (by decide) (.slice A' k c') k (intsV (goL z k)) rfl Hrow.out (some ⟨wr2.heap.size, 0, none⟩) 1 1 [.int .i64 bb] rfl rfl Hnew.out (by intro h; cases h) (by intro u hu; simp at hu; subst hu; rfl) (by unfold maxLen; omega) (by omega) (by simp; omega) (k + 1) rfl ?_; intro A5 c5 w5 ho5 hg5 hor5; obtain ⟨a1, a2, a3⟩ := Hafter.out A5 c5 w5 ho5 hg5; have HP5 := Lib.hid (HP5'.out _ a1); have HB5 := Lib.hid a2; have HR5 := Lib.hid a3; clear ho5 hg5 hor5 a1 a2 a3)
                    | (go_at_call 19; refine (HN0.out _ _ _ HP5.out).mono ?_; rintro e w6 ⟨rfl, rfl⟩))
                  go_roundw
                  case rel => exact ⟨k + 1, A5, c5, A4, c4, by omega, rfl, by have := HR5.out; unfold RowI at this; rw [length_goL] at this; exact this, HB5.out, .inr ⟨HkN.out, rfl, rfl, HP5.out⟩⟩
                  case measure => simp; omega
              · obtain ⟨_, _, _, u3, _, _⟩ := pcells hP.out
                have hgg := hP.out.glt
                have HFin := Lib.hid (HEnd.out (wr2.drewN 0))
                have HF2 : Hid (∀ q, AllSays w p n f l (.returned (.tuple #[.slice A' k c', .int .i64 (stA z k).m, .int .i64 0])) (wr2.drewN q)) := fun q => HEnd.out _ A' c' (bdn hB.out q) (by have := hrow.out; unfold RowI; rw [length_goL]; exact this)
                clear HFin hP
                go_wp2
                go_quiet (fail)
                go_wp2
                go_ret3
                exact HF2.out _
  · have hokf : okB f n = false := by cases h : okB f n with | true => exact absurd h hok | false => rfl
    have HA := Lib.hid (fun W => at_no f n (okB_no hokf) W)
    have HX : Hid (allX p n f l = none) := by
      unfold Hid allX
      rw [if_neg]
      rintro ⟨q1, q2, q3⟩
      unfold newOk at q1
      unfold okB at hokf
      simp at q1 hokf
      omega
    have HE : Hid (∀ W, Below w.heap.size w W → AllSays w p n f l (.returned (.tuple #[.slice none 0 0, .int .i64 0, .int .i64 2])) W) := fun W hW => ⟨hW, .inr ⟨HX.out, rfl⟩⟩
    have HN2 : Hid (Calls Try.prog 32 #[.int .u8 p, .int .i64 n] w fun e w' => ∃ a, e = .returned (.pointer a) ∧ Below w.heap.size w w') := HN.out.mono fun e w' ⟨h1, h2⟩ => by
      rcases h2 with ⟨_, g, q, _⟩ | ⟨_, q⟩
      · exact ⟨_, q, h1⟩
      · exact ⟨_, q, h1⟩
    clear hok hokf hI HN
    go_enter Try.func14, Try.ntmps14
    go_wp2_with (first
      | (go_at_call 32; refine HN2.out.mono ?_; rintro e w1 ⟨a, rfl, hb1⟩; have HB1 := Lib.hid hb1; clear hb1)
      | (go_at_call 22; refine (HA.out _).mono ?_; rintro e w' ⟨rfl, rfl⟩))
    go_ret3
    exact HE.out _ HB1.out
end Go.Proofs.Ytpelocpjfmmceaa
