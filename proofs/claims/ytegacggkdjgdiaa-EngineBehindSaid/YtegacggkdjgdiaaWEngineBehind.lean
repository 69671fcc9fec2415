/- EngineBehind. Here: the walk of the law's text. -/
import Derived.Test.YtegacggkdjgdiaaEZ
import Derived.WalkKit
import Derived.OpenShut
set_option linter.unusedVariables false
set_option linter.unusedSimpArgs false
namespace Go.Proofs.Ytegacggkdjgdiaa.EngineBehind
open Go.RowKit
set_option maxRecDepth 100000 in
set_option maxHeartbeats 4000000 in
theorem walk (a0 : Option Addr) (len0 cap0 : Nat) (z0 : List It) (a1 : Option Addr) (len1 cap1 : Nat) (z1 : List Int) (w : World) (h0 : ItemsIn w a0 len0 cap0 z0) (h1 : BytesIn w a1 len1 cap1 z1) :
    Calls Try.prog 5 #[.slice a0 len0 cap0, .slice a1 len1 cap1] w fun e w' => e = .returned (.bool true) ∧ Below w.heap.size w w' := by
  obtain ⟨hl0, hc0, hm0, hw0, hr0⟩ := h0
  obtain ⟨hl1, hc1, hm1, ha1, hr1⟩ := h1
  have HR0 := Lib.hid hr0
  have HW0 := Lib.hid hw0
  have HL0 := Lib.hid hl0
  have HR1 := Lib.hid hr1
  have HA1 := Lib.hid ha1
  have HL1 := Lib.hid hl1
  have HD := Lib.hid (cnew (m := 5) (by decide) (by decide) w)
  obtain ⟨j0, hj0i, hj0z, hj01, hj02⟩ := info_parts infoI
  obtain ⟨r0, hr0i, hr0z, hr01, hr02⟩ := info_parts infoR
  unfold maxLen at hm0 hm1
  clear hl0 hw0 hr0 hl1 ha1 hr1
  go_enter Try.func5, Try.ntmps5
  go_wp2_with (first
    | (go_at_call 9; refine HD.out.mono ?_; rintro e x1 ⟨rfl, ⟨F0, hd1, hf1⟩, hb1⟩; have HD1 := Lib.hid hd1; have HB1 := Lib.hid hb1; have HN := Lib.hid (enew hd1 (by decide)); clear hd1 hf1 hb1)
    | (go_at_call 8; refine HN.out.mono ?_; rintro e x2 ⟨ge, F, rfl, he2, hf2, hb2⟩; have HE2 := Lib.hid he2; have HF2 : Hid (∀ b, F b → w.heap.size ≤ b) := (fun b q => Nat.le_trans HB1.out.size (hf2 b q)); have HB2 := Lib.hid (HB1.out.trans (hb2.mono HB1.out.size)); clear he2 hf2 hb2))
  obtain ⟨S0, hS0⟩ : ∃ S0, S0 = (fun (j : Nat) => (Bk.mk noSec [] false).flushed) := ⟨_, rfl⟩
  have HE2' : Hid (Eng x2 ge 5 S0 0 0 [] F) := by rw [hS0]; exact HE2.out
  clear hS0 HE2
  go_loopw [6, 7] (fun v q wr => ∃ (i : Nat) (D : List (List Nat)) (l : List Wr) (AD : Option Addr) (cD : Nat) (Af : Nat → Option Addr) (Cf : Nat → Nat) (F' : Nat → Prop), i ≤ len0 ∧ i ≤ 20 ∧ D.length ≤ i ∧ v = .slice AD D.length cD ∧ q = .int .i64 i ∧ Hid (Eng wr ge 5 S0 0 D.length l F') ∧ Hid (Fill D l) ∧ Hid (Tab wr F' w.heap.size AD cD D Af Cf) ∧ Hid (∀ b, F' b → w.heap.size ≤ b) ∧ Hid (Below w.heap.size w wr)) (fun _ q _ => len0 - (intOf q).toNat)
  case atStart => exact ⟨0, [], [], none, 0, fun _ => none, fun _ => 0, F, Nat.zero_le _, Nat.zero_le _, Nat.le_refl _, rfl, rfl, HE2'.out, Fill.nil, Tab.nil _ _ _ _ _, HF2.out, HB2.out⟩
  case round =>
    obtain ⟨i, D, l, AD, cD, Af, Cf, F', hi, hi20, hDi, rfl, rfl, hE, hFi, hT, hF, hB⟩ := hrel
    rename World => wr
    by_cases hlt : i < len0 ∧ i < 20
    · obtain ⟨hlt, hlt20⟩ := hlt
      have hlti : (i : Int) < (len0 : Int) := by omega
      have hlti20 : (i : Int) < 20 := by omega
      have hi0 : (0 : Int) ≤ (i : Int) := by omega
      have hiz : i < z0.length := by rw [HL0.out]; exact hlt
      obtain ⟨zb, zo, Ai, Ci, hA0, hzb, hzF, hzc⟩ := (HR0.out.later hB.out (F := F') hF.out) (by omega)
      subst hA0
      have hx := hzc i hiz
      have hxw := HW0.out _ (List.getElem_mem hiz)
      rw [← itN_lt hiz] at hxw
      obtain ⟨⟨⟨pb, po, ps⟩, ds⟩, hxe⟩ : ∃ x, x = itN z0 i := ⟨_, rfl⟩
      rw [← hxe] at hx hxw
      obtain ⟨c0, c1, c2, c3, hds⟩ := hx
      generalize Ai i = Ad at c3 hds
      generalize Ci i = cd at c3
      dsimp only at c0 c1 c2 c3 hds
      have HP := Lib.hid hxw.1
      have HDS := Lib.hid hds
      have HC3 : Hid (∀ W, Below wr.heap.size wr W → W.cell? ⟨zb, zo + i * 4 + 3, none⟩ = some (.slice Ad ds.length cd)) := fun W hW => (hW.cell (p := ⟨zb, zo + i * 4 + 3, none⟩) hzb).trans c3
      have hdsm : ds.length ≤ maxLen := hxw.2.1
      have hdi : Hid (∀ y ∈ ds, I64 y) := hxw.2.2
      unfold maxLen at hdsm
      have HFl := Lib.hid hE.out.lt
      clear hxw hxe hds hzc hzF
      go_wp2
      have HX0 : Hid (BoxS wr (wr.alloc (.cells #[.int .i64 pb, .int .i64 po, .string ps, .slice none 0 0] 34)) ⟨pb, po, ps⟩ none 0 0 (Gr.natsI [])) := ⟨heap_alloc_new wr _, World.ownsRow_nil _ _ _ _, (Below.refl _ _).alloc (Nat.le_refl _) _⟩
      go_loopw [9] (fun q wq => ∃ (k n2 : Nat) (r : List Nat) (A2 : Option Addr) (c2 : Nat), k ≤ ds.length ∧ k ≤ 6 ∧ n2 ≤ k ∧ r.length = n2 ∧ q = .int .i64 k ∧ Hid (∀ d ∈ r, d < D.length) ∧ Hid (BoxS wr wq ⟨pb, po, ps⟩ A2 c2 n2 (Gr.natsI r))) (fun q _ => ds.length - (intOf q).toNat)
      case atStart => exact ⟨0, 0, [], none, 0, Nat.zero_le _, Nat.zero_le _, Nat.le_refl _, rfl, rfl, (fun d hd => by cases hd), HX0.out⟩
      case round =>
        obtain ⟨k, n2, r, A2, c2x, hk, hk6, hn2, hrl, rfl, hr, hX⟩ := hrel
        rename World => wq
        obtain ⟨hpb, hrow, hBq⟩ := hX.out
        have hzbq : zb < wq.heap.size := Nat.lt_of_lt_of_le hzb hBq.size
        have c3q := HC3.out wq hBq
        by_cases hkl : k < ds.length ∧ k < 6
        · obtain ⟨hkl, hk6l⟩ := hkl
          have hkli : (k : Int) < (ds.length : Int) := by omega
          have hkli6 : (k : Int) < 6 := by omega
          have hk0 : (0 : Int) ≤ (k : Int) := by omega
          obtain ⟨eb, eo, hAd, heb, _, hec⟩ := HDS.out (by omega)
          subst hAd
          have hcd := (hBq.cell (p := ⟨eb, eo + k, none⟩) heb).trans (hec k hkl)
          have hebq : eb < wq.heap.size := Nat.lt_of_lt_of_le heb hBq.size
          have hdI := hdi.out _ (List.getElem_mem hkl)
          obtain ⟨d, hd⟩ : ∃ d, d = ds[k] := ⟨_, rfl⟩
          rw [← hd] at hcd hdI
          unfold I64 at hdI
          have p3 : wq.cell? ⟨wr.heap.size, 3, none⟩ = some (.slice A2 n2 c2x) := cell_of_row wq _ 3 _ 34 (0, 0) hpb
          have hps : wr.heap.size < wq.heap.size := (Array.getElem?_eq_some_iff.1 hpb).1
          have Hrow : Hid (∀ W, Below wq.heap.size wq W → (W.alloc (.cells #[.int .i64 d] 3)).ownsRow (wr.heap.size + 1) 3 1 (.slice A2 n2 c2x) n2 (intsI (Gr.natsI r))) := fun W hW => ((Kept.fresh (S := fun _ => False) hW).row hrow (fun _ _ q => q)).alloc _
          have Hold : Hid (∀ j, (Value.slice A2 n2 c2x).ownBlock = some j → wr.heap.size + 1 ≤ j) := fun j e => (hrow.lt j e).1
          have Hnew : Hid (∀ W : World, ∀ ad, some (⟨W.heap.size, 0, none⟩ : Addr) = some ad → ∀ j u, ([.int .i64 d] : List Value)[j]? = some u → (W.alloc (.cells #[.int .i64 d] 3)).cell? (ad.add j) = some u) := fun W ad e j u hu => by
            cases e
            exact World.news_of_block (heap_alloc_new W _) j u hu
          clear hd hec hrow hBq hpb
          by_cases hd0 : 0 ≤ d
          · by_cases hd1 : d < (D.length : Int)
            · obtain ⟨dn, rfl⟩ : ∃ dn : Nat, d = (dn : Int) := ⟨d.toNat, by omega⟩
              have Hys : Hid (intsI (Gr.natsI r) ++ [.int .i64 (dn : Int)] = intsI (Gr.natsI (r ++ [dn]))) := by simp [intsI, Gr.natsI, Hid]
              go_wp2_with (at_builtin; go_loud (refine wpList_append_src rfl (.tmp 66) (.tmp 68) 24 rfl (wr.heap.size + 1) 3 j0 (.int .i64 0) 1 8 Try.underlying24 hj0i hj0z hj01 hj02 rfl (by decide) (.slice A2 n2 c2x) n2 (intsI (Gr.natsI r)) rfl (Hrow.out _ (Below.refl _ _)) (some ⟨wq.heap.size, 0, none⟩) 1 1 [.int .i64 (dn : Int)] rfl rfl (Hnew.out wq) (fun e => by cases e) (by intro u hu; rw [List.mem_singleton] at hu; rw [hu]; rfl) (by unfold maxLen; omega) (by omega) (by simp; omega) (n2 + 1) rfl ?_; intro A3 c3' w2 ho2 hg2 hor2; have hB3 : Below (wr.heap.size + 1) wq w2 := ((Below.refl _ _).alloc (by omega) _).grown hg2 (by simp; omega) Hold.out; have HM := Lib.hid (hX.out.more (ys := Gr.natsI (r ++ [dn])) (m := n2 + 1) hB3 (by have h := ho2; rw [Hys.out] at h; exact h)); have m0 := HM.out.1.1; have m1 := HM.out.1.2; have m2 : wr.heap.size < w2.heap.size := Nat.lt_of_lt_of_le hps hB3.size; clear ho2 hg2 hor2 hB3))
              go_roundw
              case rel =>
                refine ⟨k + 1, n2 + 1, r ++ [dn], A3, c3', by omega, by omega, by omega, by simp [hrl], by go_num, fun x hx => ?_, HM.out.2⟩
                rcases List.mem_append.1 hx with hx | hx
                · exact hr.out x hx
                · rw [List.mem_singleton] at hx; omega
              case measure => simp [intOf]; omega
            · go_wp2
              go_roundw
              case rel => exact ⟨k + 1, n2, r, A2, c2x, by omega, by omega, by omega, hrl, by go_num, hr, hX⟩
              case measure => simp [intOf]; omega
          · go_wp2
            go_roundw
            case rel => exact ⟨k + 1, n2, r, A2, c2x, by omega, by omega, by omega, hrl, by go_num, hr, hX⟩
            case measure => simp [intOf]; omega
        · have hend : k = ds.length ∨ k = 6 := by omega
          have hrr := hr.out
          have HX := hX
          have p0 : wq.cell? ⟨wr.heap.size, 0, none⟩ = some (.int .i64 pb) := cell_of_row wq _ 0 _ 34 (0, 0) hpb
          have p1 : wq.cell? ⟨wr.heap.size, 1, none⟩ = some (.int .i64 po) := cell_of_row wq _ 1 _ 34 (0, 0) hpb
          have p2 : wq.cell? ⟨wr.heap.size, 2, none⟩ = some (.string ps) := cell_of_row wq _ 2 _ 34 (0, 0) hpb
          have p3 : wq.cell? ⟨wr.heap.size, 3, none⟩ = some (.slice A2 n2 c2x) := cell_of_row wq _ 3 _ 34 (0, 0) hpb
          have hps : wr.heap.size < wq.heap.size := (Array.getElem?_eq_some_iff.1 hpb).1
          have Hnl : Hid ((Gr.natsI r).length = n2) := by unfold Hid; rw [Gr.length_natsI]; exact hrl
          have HI : Hid (ItemsF (wq.alloc (.cells #[.int .i64 pb, .int .i64 po, .string ps, .slice A2 n2 c2x] 34)) F' (some ⟨wq.heap.size, 0, none⟩) [⟨⟨pb, po, ps⟩, Gr.natsI r⟩]) := HX.out.item Hnl.out HFl.out
          have HB2 : Hid (Below wr.heap.size wr (wq.alloc (.cells #[.int .i64 pb, .int .i64 po, .string ps, .slice A2 n2 c2x] 34))) := hBq.alloc (Nat.le_of_lt hps) _
          have HE3 := Lib.hid (hE.out.fresh HB2.out)
          have HSm : Hid (SmallI [⟨⟨pb, po, ps⟩, Gr.natsI r⟩]) := by
            intro x hx
            rw [List.mem_singleton] at hx
            subst hx
            refine ⟨HP.out, by show (Gr.natsI r).length ≤ 1000; rw [Hnl.out]; omega, fun y hy => ?_⟩
            obtain ⟨d, hd, rfl⟩ := List.mem_map.1 hy
            have := hrr d hd
            unfold I64
            omega
          have HX2 : Hid (BoxS wr (wq.alloc (.cells #[.int .i64 pb, .int .i64 po, .string ps, .slice A2 n2 c2x] 34)) ⟨pb, po, ps⟩ A2 c2x n2 (Gr.natsI r)) := HX.out.keep ((Below.refl _ _).alloc (Nat.le_refl _) _)
          have HX2l : Hid (wr.heap.size < (wq.alloc (.cells #[.int .i64 pb, .int .i64 po, .string ps, .slice A2 n2 c2x] 34)).heap.size) := (Array.getElem?_eq_some_iff.1 HX2.out.1).1
          have HIr : Hid (IntsF (wq.alloc (.cells #[.int .i64 pb, .int .i64 po, .string ps, .slice A2 n2 c2x] 34)) (fun b => F' b ∨ own AD = some b) A2 (Gr.natsI r)) := HX2.out.ints Hnl.out (fun b q => q.elim (HFl.out b) (fun q => (hT.out.lt b q).2))
          have HBw : Hid (Below w.heap.size w (wq.alloc (.cells #[.int .i64 pb, .int .i64 po, .string ps, .slice A2 n2 c2x] 34))) := hB.out.trans (HB2.out.mono hB.out.size)
          have hlen : l.length ≤ 200 := by obtain ⟨gd, A, c, Fd, h, rfl⟩ := hE.out; exact h.few
          clear hpb hrow hBq hrr
          by_cases hkk : k < ds.length
          all_goals (
            have hk0 : (0 : Int) ≤ (k : Int) := by omega
            first
              | (have hq1 : (k : Int) < (ds.length : Int) := by omega)
              | (have hq1 : ¬ (k : Int) < (ds.length : Int) := by omega)
            have hq2 : (k : Int) < (ds.length : Int) → ¬ (k : Int) < 6 := by omega
            first
              | (have hq3 : ¬ (k : Int) < 6 := hq2 hq1)
              | skip
            clear hq2
            by_cases hre : refusesE 5 (D.length : Int) l.length [⟨⟨pb, po, ps⟩, Gr.natsI r⟩] = 0
            · go_wp2_with (first
                | (go_at_call 10; refine (eadd HE3.out (some ⟨wq.heap.size, 0, none⟩) 1 [⟨⟨pb, po, ps⟩, Gr.natsI r⟩] HI.out HSm.out (by omega) (by omega) hre).mono ?_; rintro e x3 ⟨rfl, F3, ⟨l3, ha3, he3⟩, hk3, hf3⟩; obtain ⟨y3, rfl, hy3⟩ := added_one ha3; have HA3 := Lib.hid he3; have HK3 := Lib.hid hk3; have HF3 := Lib.hid hf3; have HY3 := Lib.hid hy3; have hb3 := (hk3.block wr.heap.size HX2l.out (fun q => absurd (HFl.out _ q) (Nat.lt_irrefl _))).trans HX2.out.1; have c3x : x3.cell? ⟨wr.heap.size, 3, none⟩ = some (.slice A2 n2 c2x) := cell_of_row x3 _ 3 _ 34 (0, 0) hb3; have l3x : wr.heap.size < x3.heap.size := Nat.lt_of_lt_of_le HX2l.out hk3.size; have HT3 := Lib.hid ((hT.out.fresh HB2.out).keep hk3 hf3); have HI3 := Lib.hid (HIr.out.keep hk3 (fun b q => .inl q) (F' := fun b => F3 b ∨ own AD = some b) (fun b q => q.elim (fun q => (hf3 b q).elim (fun q => .inl (.inl q)) .inr) (fun q => .inl (.inr q)))); have HR3 := Lib.hid (run_of HBw.out hF.out hk3 hf3); have hw3 : w.heap.size ≤ x3.heap.size := HR3.out.1.size; clear ha3 he3 hk3 hf3 hy3 hb3)
                | (at_builtin; go_loud (refine wpList_append_src rfl (.tmp 86) (.tmp 89) 30 rfl w.heap.size 24 r0 (.slice none 0 0) 1 24 Try.underlying30 hr0i hr0z hr01 hr02 rfl (by decide) (.slice AD D.length cD) D.length (tabV D Af Cf) rfl (HT3.out.tab.alloc _) (some ⟨x3.heap.size, 0, none⟩) 1 1 [.slice A2 n2 c2x] rfl rfl (fun ad e j u hu => by cases e; exact World.news_of_block (heap_alloc_new x3 _) j u hu) (fun e => by cases e) (by intro u hu; rw [List.mem_singleton] at hu; rw [hu]; rfl) (by unfold maxLen; omega) (by omega) (by simp; omega) (D.length + 1) rfl ?_; intro A5 c5 x5 ho5 hg5 hor5; have HO5 := Lib.hid ho5; have HG5 := Lib.hid hg5; have HQ5 := Lib.hid hor5; clear ho5 hg5 hor5)))
              have ea : (x3.alloc (.cells #[.slice A2 n2 c2x] 24)).heap.size = x3.heap.size + 1 := by simp
              have HBa : Hid (Below x3.heap.size x3 (x3.alloc (.cells #[.slice A2 n2 c2x] 24))) := (Below.refl _ _).alloc (Nat.le_refl _) _
              have hg5 := HG5.out
              have hor5 := HQ5.out
              rw [own_eq, own_eq] at hor5
              rw [own_eq] at hg5
              have HE5 := Lib.hid ((HA3.out.fresh HBa.out).tabbed (HT3.out.fresh HBa.out) hg5)
              have HT5 := Lib.hid ((HT3.out.fresh HBa.out).add (r := r) (Ar := A2) (cr := c2x) (fun b q => by have := HA3.out.lt b q; omega) (HI3.out.keep (Kept.fresh (S := fun _ => False) HBa.out) (fun _ q => q.elim) (fun b q => .inl q)) (by rw [hrl]; exact HO5.out) hg5 hor5)
              have HB5 : Hid (Below w.heap.size w x5) := ((HR3.out.1).alloc hw3 _).grown hg5 (by simp; omega) (fun j e => (HT3.out.lt j e).1)
              go_roundw
              case rel =>
                refine ⟨i + 1, D ++ [r], l ++ [y3], A5, c5, _, _, F3, by omega, by omega, by simp; omega, by simp, by go_num, ?_, hFi.out.add (by omega) hr.out (by omega) HY3.out, HT5.out, HR3.out.2, HB5.out⟩
                have e : ((D ++ [r]).length : Int) = (D.length : Int) + (([⟨⟨pb, po, ps⟩, Gr.natsI r⟩] : List It).length : Int) := by simp
                unfold Hid
                rw [e]
                exact HE5.out
              case measure => simp [intOf]; omega
            · have HNo := Lib.hid (eadd_no HE3.out (some ⟨wq.heap.size, 0, none⟩) 1 [⟨⟨pb, po, ps⟩, Gr.natsI r⟩] HI.out HSm.out (by simp) hre)
              generalize refusesE 5 (D.length : Int) l.length [⟨⟨pb, po, ps⟩, Gr.natsI r⟩] = E at HNo hre
              go_wp2_with (go_at_call 10; refine HNo.out.mono ?_; rintro e x3 ⟨rfl, hb3⟩; have HB3 := Lib.hid (HB2.out.trans (hb3.mono HB2.out.size)); clear hb3)
              go_roundw
              case rel => exact ⟨i + 1, D, l, AD, cD, Af, Cf, F', by omega, by omega, by omega, rfl, by go_num, hE.out.fresh HB3.out, hFi, hT.out.fresh HB3.out, hF, hB.out.trans (HB3.out.mono hB.out.size)⟩
              case measure => simp [intOf]; omega)
    · have HOk : Hid (Gr.OkD D) := hFi.out.ok
      have HBW := Lib.hid hFi.out.bw
      have hD20 : D.length ≤ 20 := by omega
      by_cases hlt0 : i < len0
      all_goals (
        have hi0 : (0 : Int) ≤ (i : Int) := by omega
        first
          | (have hq1 : (i : Int) < (len0 : Int) := by omega)
          | (have hq1 : ¬ (i : Int) < (len0 : Int) := by omega)
        have hq2 : (i : Int) < (len0 : Int) → ¬ (i : Int) < 20 := by omega
        first
          | (have hq3 : ¬ (i : Int) < 20 := hq2 hq1)
          | skip
        clear hq2 hlt
        go_wp2
        go_loopw [13] (fun q wq => ∃ (j cc : Nat) (l' : List Wr) (S' : Nat → Bk) (F2 : Nat → Prop), j ≤ len1 ∧ j ≤ 30 ∧ cc ≤ j ∧ q = .int .i64 j ∧ Hid (Eng wq ge 5 S' cc D.length l' F2) ∧ Hid (BW D l') ∧ Hid (Tab wq F2 w.heap.size AD cD D Af Cf) ∧ Hid (∀ b, F2 b → w.heap.size ≤ b) ∧ Hid (Below w.heap.size w wq)) (fun q _ => len1 - (intOf q).toNat)
        case atStart => exact ⟨0, 0, l, S0, F', Nat.zero_le _, Nat.zero_le _, Nat.le_refl _, rfl, hE, HBW, hT, hF, hB⟩
        case round =>
          clear hE hFi hT hF hB HBW
          obtain ⟨j, cc, l2, S2, F2, hj, hj30, hcc, rfl, hE, hBW, hT, hF, hB⟩ := hrel
          rename World => wq
          by_cases hlt : j < len1 ∧ j < 30
          · obtain ⟨hlt, hlt30⟩ := hlt
            have hltj : (j : Int) < (len1 : Int) := by omega
            have hlti30 : (j : Int) < 30 := by omega
            have hj0 : (0 : Int) ≤ (j : Int) := by omega
            have hjz : j < z1.length := by rw [HL1.out]; exact hlt
            obtain ⟨zb, zo, rfl, hzb, hzc⟩ := HR1.out (by omega)
            have hc := (hB.out.cell (p := ⟨zb, zo + j, none⟩) hzb).trans (hzc j hjz)
            have hz8 := HA1.out _ (List.getElem_mem hjz)
            obtain ⟨z, hz⟩ : ∃ z, z = z1[j] := ⟨_, rfl⟩
            rw [← hz] at hc hz8
            obtain ⟨m5, hm5⟩ : ∃ m5 : Nat, m5 = z.toNat % 5 := ⟨_, rfl⟩
            have hm5l : m5 < 5 := by omega
            have hzi : z % 5 = (m5 : Int) := by omega
            have hzbw : zb < wq.heap.size := Nat.lt_of_lt_of_le hzb hB.out.size
            have HW := Lib.hid (ewrite_any hE.out hm5l (by omega))
            have HAs : Hid (Asc l2) := by obtain ⟨gd, A, c, Fd, h, rfl⟩ := hE.out; exact h.asc
            have HBW4 := Lib.hid (hBW.out.write HAs.out S2 m5)
            generalize wrN S2 l2 m5 = r1 at HW
            generalize wrE S2 l2 m5 = r2 at HW
            generalize wrS S2 l2 m5 = S4 at HW
            generalize wrL S2 l2 m5 = l4 at HW HBW4
            have Hzc : Hid (∀ W, Below w.heap.size w W → W.cell? ⟨zb, zo + j, none⟩ = some (.int .u8 z)) := fun W hW => by rw [hz]; exact (hW.cell (p := ⟨zb, zo + j, none⟩) hzb).trans (hzc j hjz)
            have hcc1 : cc + 1 < 100000 := by omega
            have HAsc : Hid (∀ W S k F cc, Eng W ge 5 S cc k l4 F → Asc l4) := fun W S k F cc h => by obtain ⟨gd, A, c, Fd, h, rfl⟩ := h; exact h.asc
            have HFew : Hid (∀ W S k F cc l, Eng W ge 5 S cc k l F → l.length ≤ 200) := fun W S k F cc l h => by obtain ⟨gd, A, c, Fd, h, rfl⟩ := h; exact h.few
            clear hz hm5 hzc
            by_cases h3 : z % 3 = 0
            · go_wp2_with (first
                | (go_at_call 12; refine HW.out.mono ?_; rintro e x4 ⟨rfl, F4, he4, hk4, hf4⟩; have HE4 := Lib.hid he4; have HT4 := Lib.hid (hT.out.keep hk4 hf4); have HR4 := Lib.hid (run_of hB.out hF.out hk4 hf4); have hc4 := Hzc.out _ HR4.out.1; have hzb4 : zb < x4.heap.size := Nat.lt_of_lt_of_le hzb HR4.out.1.size; clear he4 hk4 hf4)
                | (go_at_call 13; refine (eflush HE4.out hcc1).mono ?_; rintro e x5 ⟨rfl, F5, he5, hk5, hf5⟩; have HE5 := Lib.hid he5; have HT5 := Lib.hid (HT4.out.keep hk5 hf5); have HR5 := Lib.hid (run_of HR4.out.1 HR4.out.2 hk5 hf5); have HBW5 := Lib.hid (HBW4.out.flush (HAsc.out _ _ _ _ _ HE4.out)); have Few5 := Lib.hid (HFew.out _ _ _ _ _ _ he5); have HWt := Lib.hid (ewaiting he5); clear he5 hk5 hf5)
                | (go_at_call 17; refine HWt.out.mono ?_; rintro e x9 ⟨A9, c9, rfl, ho9, hb9⟩; have HO9 := Lib.hid ho9; have HB9 := Lib.hid hb9; clear ho9 hb9 HWt))
              generalize leftL l4 = l5 at *
              have HL9 : Hid ((numsL l5).length ≤ 200) := by
                have := Few5.out
                unfold Hid numsL
                rw [List.length_map]; exact this
              clear Few5
              go_loopw [15, 16] (fun v q wq => ∃ (n m : Nat) (Aq : Option Addr) (cq : Nat), n ≤ D.length ∧ q = .int .i64 n ∧ v = .slice Aq m cq ∧ (doneN l5 n).length = m ∧ Hid (wq.ownsRow x9.heap.size 3 1 (.slice Aq m cq) m (intsI (Gr.natsI (doneN l5 n)))) ∧ Hid (Below x9.heap.size x9 wq)) (fun _ q _ => D.length - (intOf q).toNat)
              case atStart => exact ⟨0, 0, none, 0, Nat.zero_le _, rfl, rfl, rfl, World.ownsRow_nil _ _ _ _, Below.refl _ _⟩
              case round =>
                obtain ⟨n, m, Aq, cq, hn, rfl, rfl, hm, hrow, hBq⟩ := hrel
                rename World => wq
                have hmn : m ≤ D.length := by rw [← hm]; exact Nat.le_trans (doneN_len _ _) hn
                have HO9q := Lib.hid ((Kept.fresh (S := fun _ => False) hBq.out).row HO9.out (fun _ _ q => q))
                have hsq := hBq.out.size
                by_cases hnl : n < D.length
                · have hnli : (n : Int) < (D.length : Int) := by omega
                  have hn0 : (0 : Int) ≤ (n : Int) := by omega
                  have HH := Lib.hid (Gr.has_any A9 c9 _ (numsL l5) (n : Int) wq wq.heap.size rfl (by have := HL9.out; omega) (grow_row rfl HO9q.out))
                  rw [has_nums] at HH
                  have Hst := Lib.hid (doneN_succ l5 n)
                  obtain ⟨t, ht⟩ : ∃ t, t = hasN l5 (n : Int) := ⟨_, rfl⟩
                  rw [← ht] at HH Hst
                  clear ht
                  cases t with
                  | true =>
                    have hst : Hid (doneN l5 (n + 1) = doneN l5 n) := by unfold Hid; rw [Hst.out]; simp
                    clear Hst
                    go_wp2_with (go_at_call 24; refine HH.out.mono ?_; rintro e wh ⟨rfl, rfl⟩)
                    go_roundw
                    case rel => exact ⟨n + 1, m, Aq, cq, by omega, by go_num, rfl, by rw [hst.out]; exact hm, by rw [hst.out]; exact hrow, hBq⟩
                    case measure => simp [intOf]; omega
                  | false =>
                    have hst : Hid (doneN l5 (n + 1) = doneN l5 n ++ [n]) := by unfold Hid; rw [Hst.out]; simp
                    have Hold : Hid (∀ j, (Value.slice Aq m cq).ownBlock = some j → x9.heap.size ≤ j) := fun j e => (hrow.out.lt j e).1
                    have Hys : Hid (intsI (Gr.natsI (doneN l5 n)) ++ [.int .i64 (n : Int)] = intsI (Gr.natsI (doneN l5 n ++ [n]))) := by simp [intsI, Gr.natsI, Hid]
                    clear Hst
                    go_wp2_with (first
                      | (go_at_call 24; refine HH.out.mono ?_; rintro e wh ⟨rfl, rfl⟩)
                      | (at_builtin; go_loud (refine wpList_append_src rfl (.tmp 129) (.tmp 131) 24 rfl x9.heap.size 3 j0 (.int .i64 0) 1 8 Try.underlying24 hj0i hj0z hj01 hj02 rfl (by decide) (.slice Aq m cq) m (intsI (Gr.natsI (doneN l5 n))) rfl (hrow.out.alloc _) (some ⟨wq.heap.size, 0, none⟩) 1 1 [.int .i64 (n : Int)] rfl rfl (fun ad e j u hu => by cases e; exact World.news_of_block (heap_alloc_new wq _) j u hu) (fun e => by cases e) (by intro u hu; rw [List.mem_singleton] at hu; rw [hu]; rfl) (by unfold maxLen; omega) (by omega) (by simp; omega) (m + 1) rfl ?_; intro A3 c3 w2 ho2 hg2 hor2; have HO2 := Lib.hid ho2; have HG2 := Lib.hid hg2; clear ho2 hg2 hor2)))
                    go_roundw
                    case rel =>
                      refine ⟨n + 1, m + 1, A3, c3, by omega, by go_num, rfl, by rw [hst.out, List.length_append, hm]; rfl, ?_, (hBq.out.alloc hsq _).grown HG2.out (by simp; omega) Hold.out⟩
                      have := HO2.out
                      rw [Hys.out] at this
                      rw [hst.out]
                      exact this
                    case measure => simp [intOf]; omega
                · obtain rfl : n = D.length := by omega
                  have hnli : ¬ (D.length : Int) < (D.length : Int) := by omega
                  have HBx : Hid (Below x5.heap.size x5 wq) := HB9.out.trans (hBq.out.mono HB9.out.size)
                  have HTq := Lib.hid (HT5.out.fresh HBx.out)
                  have hcl : Gr.closedB D (Gr.natsI (doneN l5 D.length)) = true := HBW5.out.closed HOk.out
                  have HC := Lib.hid (Gr.refclosed_yes AD cD D.length D rfl HOk.out Aq cq m (Gr.natsI (doneN l5 D.length)) (by rw [Gr.length_natsI, hm]) (by rw [Gr.length_natsI, hm]; omega) wq HTq.out.mat (grow_row (by rw [Gr.length_natsI, hm]) hrow.out))
                  rw [hcl] at HC
                  clear hcl
                  go_wp2_with (go_at_call 25; refine HC.out.mono ?_; rintro e wc ⟨rfl, hbc⟩; have HBc := Lib.hid (HBx.out.trans (hbc.mono HBx.out.size)); clear hbc)
                  go_roundw
                  case rel => exact ⟨j + 1, cc + 1, l5, _, F5, by omega, by omega, by omega, by go_num, HE5.out.fresh HBc.out, HBW5, HT5.out.fresh HBc.out, HR5.out.2, HR5.out.1.trans (HBc.out.mono HR5.out.1.size)⟩
                  case measure => simp [intOf]; omega
            · go_wp2_with (first
                | (go_at_call 12; refine HW.out.mono ?_; rintro e x5 ⟨rfl, F5, he5, hk5, hf5⟩; have HE5 := Lib.hid he5; have HT5 := Lib.hid (hT.out.keep hk5 hf5); have HR5 := Lib.hid (run_of hB.out hF.out hk5 hf5); have HBW5 := HBW4; have Few5 := Lib.hid (HFew.out _ _ _ _ _ _ he5); have hc5 := Hzc.out _ HR5.out.1; have hzb5 : zb < x5.heap.size := Nat.lt_of_lt_of_le hzb HR5.out.1.size; have HWt := Lib.hid (ewaiting he5); clear he5 hk5 hf5)
                | (go_at_call 17; refine HWt.out.mono ?_; rintro e x9 ⟨A9, c9, rfl, ho9, hb9⟩; have HO9 := Lib.hid ho9; have HB9 := Lib.hid hb9; clear ho9 hb9 HWt))
              generalize l4 = l5 at *
              have HL9 : Hid ((numsL l5).length ≤ 200) := by
                have := Few5.out
                unfold Hid numsL
                rw [List.length_map]; exact this
              clear Few5
              go_loopw [15, 16] (fun v q wq => ∃ (n m : Nat) (Aq : Option Addr) (cq : Nat), n ≤ D.length ∧ q = .int .i64 n ∧ v = .slice Aq m cq ∧ (doneN l5 n).length = m ∧ Hid (wq.ownsRow x9.heap.size 3 1 (.slice Aq m cq) m (intsI (Gr.natsI (doneN l5 n)))) ∧ Hid (Below x9.heap.size x9 wq)) (fun _ q _ => D.length - (intOf q).toNat)
              case atStart => exact ⟨0, 0, none, 0, Nat.zero_le _, rfl, rfl, rfl, World.ownsRow_nil _ _ _ _, Below.refl _ _⟩
              case round =>
                obtain ⟨n, m, Aq, cq, hn, rfl, rfl, hm, hrow, hBq⟩ := hrel
                rename World => wq
                have hmn : m ≤ D.length := by rw [← hm]; exact Nat.le_trans (doneN_len _ _) hn
                have HO9q := Lib.hid ((Kept.fresh (S := fun _ => False) hBq.out).row HO9.out (fun _ _ q => q))
                have hsq := hBq.out.size
                by_cases hnl : n < D.length
                · have hnli : (n : Int) < (D.length : Int) := by omega
                  have hn0 : (0 : Int) ≤ (n : Int) := by omega
                  have HH := Lib.hid (Gr.has_any A9 c9 _ (numsL l5) (n : Int) wq wq.heap.size rfl (by have := HL9.out; omega) (grow_row rfl HO9q.out))
                  rw [has_nums] at HH
                  have Hst := Lib.hid (doneN_succ l5 n)
                  obtain ⟨t, ht⟩ : ∃ t, t = hasN l5 (n : Int) := ⟨_, rfl⟩
                  rw [← ht] at HH Hst
                  clear ht
                  cases t with
                  | true =>
                    have hst : Hid (doneN l5 (n + 1) = doneN l5 n) := by unfold Hid; rw [Hst.out]; simp
                    clear Hst
                    go_wp2_with (go_at_call 24; refine HH.out.mono ?_; rintro e wh ⟨rfl, rfl⟩)
                    go_roundw
                    case rel => exact ⟨n + 1, m, Aq, cq, by omega, by go_num, rfl, by rw [hst.out]; exact hm, by rw [hst.out]; exact hrow, hBq⟩
                    case measure => simp [intOf]; omega
                  | false =>
                    have hst : Hid (doneN l5 (n + 1) = doneN l5 n ++ [n]) := by unfold Hid; rw [Hst.out]; simp
                    have Hold : Hid (∀ j, (Value.slice Aq m cq).ownBlock = some j → x9.heap.size ≤ j) := fun j e => (hrow.out.lt j e).1
                    have Hys : Hid (intsI (Gr.natsI (doneN l5 n)) ++ [.int .i64 (n : Int)] = intsI (Gr.natsI (doneN l5 n ++ [n]))) := by simp [intsI, Gr.natsI, Hid]
                    clear Hst
                    go_wp2_with (first
                      | (go_at_call 24; refine HH.out.mono ?_; rintro e wh ⟨rfl, rfl⟩)
                      | (at_builtin; go_loud (refine wpList_append_src rfl (.tmp 129) (.tmp 131) 24 rfl x9.heap.size 3 j0 (.int .i64 0) 1 8 Try.underlying24 hj0i hj0z hj01 hj02 rfl (by decide) (.slice Aq m cq) m (intsI (Gr.natsI (doneN l5 n))) rfl (hrow.out.alloc _) (some ⟨wq.heap.size, 0, none⟩) 1 1 [.int .i64 (n : Int)] rfl rfl (fun ad e j u hu => by cases e; exact World.news_of_block (heap_alloc_new wq _) j u hu) (fun e => by cases e) (by intro u hu; rw [List.mem_singleton] at hu; rw [hu]; rfl) (by unfold maxLen; omega) (by omega) (by simp; omega) (m + 1) rfl ?_; intro A3 c3 w2 ho2 hg2 hor2; have HO2 := Lib.hid ho2; have HG2 := Lib.hid hg2; clear ho2 hg2 hor2)))
                    go_roundw
                    case rel =>
                      refine ⟨n + 1, m + 1, A3, c3, by omega, by go_num, rfl, by rw [hst.out, List.length_append, hm]; rfl, ?_, (hBq.out.alloc hsq _).grown HG2.out (by simp; omega) Hold.out⟩
                      have := HO2.out
                      rw [Hys.out] at this
                      rw [hst.out]
                      exact this
                    case measure => simp [intOf]; omega
                · obtain rfl : n = D.length := by omega
                  have hnli : ¬ (D.length : Int) < (D.length : Int) := by omega
                  have HBx : Hid (Below x5.heap.size x5 wq) := HB9.out.trans (hBq.out.mono HB9.out.size)
                  have HTq := Lib.hid (HT5.out.fresh HBx.out)
                  have hcl : Gr.closedB D (Gr.natsI (doneN l5 D.length)) = true := HBW5.out.closed HOk.out
                  have HC := Lib.hid (Gr.refclosed_yes AD cD D.length D rfl HOk.out Aq cq m (Gr.natsI (doneN l5 D.length)) (by rw [Gr.length_natsI, hm]) (by rw [Gr.length_natsI, hm]; omega) wq HTq.out.mat (grow_row (by rw [Gr.length_natsI, hm]) hrow.out))
                  rw [hcl] at HC
                  clear hcl
                  go_wp2_with (go_at_call 25; refine HC.out.mono ?_; rintro e wc ⟨rfl, hbc⟩; have HBc := Lib.hid (HBx.out.trans (hbc.mono HBx.out.size)); clear hbc)
                  go_roundw
                  case rel => exact ⟨j + 1, cc + 1, l5, _, F5, by omega, by omega, by omega, by go_num, HE5.out.fresh HBc.out, HBW5, HT5.out.fresh HBc.out, HR5.out.2, HR5.out.1.trans (HBc.out.mono HR5.out.1.size)⟩
                  case measure => simp [intOf]; omega
          · by_cases hlt1 : j < len1
            all_goals (
              have hj0 : (0 : Int) ≤ (j : Int) := by omega
              first
                | (have hq1' : (j : Int) < (len1 : Int) := by omega)
                | (have hq1' : ¬ (j : Int) < (len1 : Int) := by omega)
              have hq2' : (j : Int) < (len1 : Int) → ¬ (j : Int) < 30 := by omega
              first
                | (have hq3' : ¬ (j : Int) < 30 := hq2' hq1')
                | skip
              clear hq2' hlt
              go_wp2_with (go_at_call 19; refine (live_any _).mono ?_; rintro e w9 ⟨rfl, hb9⟩; have HB9 := Lib.hid (hB.out.trans (hb9.mono hB.out.size)); clear hb9)
              go_ret
              exact ⟨rfl, HB9.out⟩))
end Go.Proofs.Ytegacggkdjgdiaa.EngineBehind
