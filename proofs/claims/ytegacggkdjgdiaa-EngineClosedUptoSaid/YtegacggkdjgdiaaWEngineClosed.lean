/- EngineClosed. Here: the walk of the law's text (begun). -/
import Derived.Test.YtegacggkdjgdiaaCV
import Derived.Deep.RegionHeld3
import Derived.Test.YtegacggkdjgdiaaEZ
import Derived.Test.YtegacggkdjgdiaaDQ
import Derived.WalkKit
import Derived.OpenShut
set_option linter.unusedVariables false
set_option linter.unusedSimpArgs false
namespace Go.Proofs.Ytegacggkdjgdiaa.EngineClosed
open Go.RowKit
set_option maxRecDepth 100000 in
set_option maxHeartbeats 40000000 in
theorem walk (a0 : Option Addr) (len0 cap0 : Nat) (z0 : List It) (a1 : Option Addr) (len1 cap1 : Nat) (z1 : List Int) (a2 : Option Addr) (len2 cap2 : Nat) (z2 : List Int) (w : World) (h0 : ItemsIn w a0 len0 cap0 z0) (h1 : BytesIn w a1 len1 cap1 z1) (h2 : NumsIn w a2 len2 cap2 z2) (hbk : ∀ x ∈ z0, x.p.s.size ≤ 1048576) :
    Calls Try.prog 3 #[.slice a0 len0 cap0, .slice a1 len1 cap1, .slice a2 len2 cap2] w fun e w' => e = .returned (.bool true) ∧ Below w.heap.size w w' := by
  obtain ⟨hl0, hc0, hm0, hw0, hr0⟩ := h0
  obtain ⟨hl1, hc1, hm1, ha1, hr1⟩ := h1
  have HR0 := Lib.hid hr0
  have HW0 := Lib.hid hw0
  have HL0 := Lib.hid hl0
  have HR1 := Lib.hid hr1
  have HA1 := Lib.hid ha1
  have HL1 := Lib.hid hl1
  have H2 := Lib.hid h2
  have HBk := Lib.hid hbk
  have HD := Lib.hid (cnew (m := 5) (by decide) (by decide) w)
  obtain ⟨j0, hj0i, hj0z, hj01, hj02⟩ := info_parts infoI
  obtain ⟨r0, hr0i, hr0z, hr01, hr02⟩ := info_parts infoR
  obtain ⟨k0, hk0i, hk0z, hk01, hk02⟩ := info_parts infoP
  unfold maxLen at hm0 hm1
  clear hl0 hw0 hr0 hl1 ha1 hr1 h2 hbk
  go_enter Try.func3, Try.ntmps3
  go_wp2_with (first
    | (go_at_call 9; refine HD.out.mono ?_; rintro e x1 ⟨rfl, ⟨F0, hd1, hf1⟩, hb1⟩; have HD1 := Lib.hid hd1; have HB1 := Lib.hid hb1; have HN := Lib.hid (enew hd1 (by decide)); clear hd1 hf1 hb1)
    | (go_at_call 8; refine HN.out.mono ?_; rintro e x2 ⟨ge, F, rfl, he2, hf2, hb2⟩; have HE2 := Lib.hid he2; have HF2 : Hid (∀ b, F b → w.heap.size ≤ b) := (fun b q => Nat.le_trans HB1.out.size (hf2 b q)); have HB2 := Lib.hid (HB1.out.trans (hb2.mono HB1.out.size)); clear he2 hf2 hb2))
  obtain ⟨S0, hS0⟩ : ∃ S0, S0 = (fun (j : Nat) => (Bk.mk noSec [] false).flushed) := ⟨_, rfl⟩
  have HE2' : Hid (Eng x2 ge 5 S0 0 0 [] F) := by rw [hS0]; exact HE2.out
  have HV2 : Hid (VS (pN []) (Gr.rowN []) 0 S0 []) := by rw [hS0]; exact VS.nil _ _
  clear hS0 HE2
  go_loopw [8, 9, 10] (fun v u q wr => ∃ (i cc : Nat) (L : List Pt) (D : List (List Nat)) (S : Nat → Bk) (l : List Wr) (AA : Option Addr) (cA : Nat) (AD : Option Addr) (cD : Nat) (Af : Nat → Option Addr) (Cf : Nat → Nat) (F' : Nat → Prop), i ≤ len0 ∧ i ≤ 14 ∧ L.length ≤ i ∧ cc ≤ i ∧ D.length = L.length ∧ v = .slice AA L.length cA ∧ u = .slice AD D.length cD ∧ q = .int .i64 i ∧ Hid (Eng wr ge 5 S cc L.length l F') ∧ Hid (VS (pN L) (Gr.rowN D) L.length S l) ∧ Hid (AllT wr F' w.heap.size AA cA L) ∧ Hid (Tab wr (fun b => F' b ∨ own AA = some b) w.heap.size AD cD D Af Cf) ∧ Hid (Gr.OkD D) ∧ Hid (∀ k, k < L.length → (pN L k).b < (5 : Nat)) ∧ Hid (∀ b, F' b → w.heap.size ≤ b) ∧ Hid (Below w.heap.size w wr)) (fun _ _ q _ => len0 - (intOf q).toNat)
  case atStart => exact ⟨0, 0, [], [], S0, [], none, 0, none, 0, fun _ => none, fun _ => 0, F, Nat.zero_le _, Nat.zero_le _, Nat.le_refl _, Nat.le_refl _, rfl, rfl, rfl, rfl, HE2'.out, HV2.out, AllT.nil _ _ _, Tab.nil _ _ _ _ _, Fill.nil.ok, (fun k hk => absurd hk (Nat.not_lt_zero _)), HF2.out, HB2.out⟩
  case round =>
    obtain ⟨i, cc, L, D, S, l, AA, cA, AD, cD, Af, Cf, F', hi, hi14, hLi, hcc, hDL, rfl, rfl, rfl, hE, hV, hAl, hT, hOk, hP5, hF, hB⟩ := hrel
    rename World => wr
    by_cases hlt : i < len0 ∧ i < 14
    · as_aux_lemma =>
        obtain ⟨hlt, hlt14⟩ := hlt
        have hlti : (i : Int) < (len0 : Int) := by omega
        have hlti14 : (i : Int) < 14 := by omega
        have hi0 : (0 : Int) ≤ (i : Int) := by omega
        have hiz : i < z0.length := by rw [HL0.out]; exact hlt
        obtain ⟨zb, zo, Ai, Ci, hA0, hzb, hzF, hzc⟩ := (HR0.out.later hB.out (F := F') hF.out) (by omega)
        subst hA0
        have hx := hzc i hiz
        have hxw := HW0.out _ (List.getElem_mem hiz)
        have hxb := HBk.out _ (List.getElem_mem hiz)
        rw [← itN_lt hiz] at hxw hxb
        obtain ⟨⟨⟨pb, po, ps⟩, ds⟩, hxe⟩ : ∃ x, x = itN z0 i := ⟨_, rfl⟩
        rw [← hxe] at hx hxw hxb
        obtain ⟨c0, c1, c2, c3, hds⟩ := hx
        generalize Ai i = Ad at c3 hds
        generalize Ci i = cd at c3
        dsimp only at c0 c1 c2 c3 hds
        have HP := Lib.hid hxw.1
        have HDS := Lib.hid hds
        have HC3 : Hid (∀ W, Below wr.heap.size wr W → W.cell? ⟨zb, zo + i * 4 + 3, none⟩ = some (.slice Ad ds.length cd)) := fun W hW => (hW.cell (p := ⟨zb, zo + i * 4 + 3, none⟩) hzb).trans c3
        have hdsm : ds.length ≤ maxLen := hxw.2.1
        have hdi : Hid (∀ y ∈ ds, I64 y) := hxw.2.2
        unfold maxLen at hdsm
        have HFl := Lib.hid hE.out.lt
        obtain ⟨n, hn⟩ : ∃ n, n = ps.size := ⟨_, rfl⟩
        dsimp only at hxb
        have hnm : n ≤ 1048576 := by rw [hn]; exact hxb
        have Hn := Lib.hid hn
        obtain ⟨v, hv⟩ : ∃ v : Int, v = (L.length : Int) + 1 := ⟨_, rfl⟩
        have hw1 : IntKind.u8.wrap (L.length : Int) = (L.length : Int) := by simp [IntKind.wrap, IntKind.bits, IntKind.signed]; omega
        have hw2 : IntKind.u8.wrap ((L.length : Int) + 1) = (L.length : Int) + 1 := by simp [IntKind.wrap, IntKind.bits, IntKind.signed]; omega
        have hmk : ∀ W, (Instr.makeSlice 23 (.int .i64 (ps.size : Int)) (.int .i64 (ps.size : Int))).run Try.prog W = .ok (.slice (some ⟨W.heap.size, 0, none⟩) ps.size ps.size) (W.alloc (.cells (madeCells #[Value.int .u8 0] ps.size) 5)) := fun W => run_make_row' (P := Try.prog) 23 5 (.int .u8 0) 1 Try.underlying23 info5 rfl .i64 .i64 ps.size (by omega) (by omega) W
        clear hxw hxe hds hzc hzF
        go_wp2
        have HO0 : Hid (((wr.alloc (.cells #[.int .i64 pb, .int .i64 po, .string ps, .slice none 0 0] 34)).alloc (.cells (madeCells #[Value.int .u8 0] ps.size) 5)).ownsRow (wr.heap.size + 1) 5 1 (.slice (some ⟨wr.heap.size + 1, 0, none⟩) ps.size ps.size) ps.size (bytesV (fillD ps.size 0 v))) := by
          have := World.ownsRow_lit (base := wr.heap.size + 1) (size := 1) (e := 5) (wr.alloc (.cells #[.int .i64 pb, .int .i64 po, .string ps, .slice none 0 0] 34)) (madeCells #[Value.int .u8 0] ps.size) ps.size (by simp) (by unfold maxLen; have := Hn.out; omega) (by simp [madeCells])
          rw [fillD_zero ps.size v] at this
          unfold Hid
          simpa using this
        have HX0 : Hid (((wr.alloc (.cells #[.int .i64 pb, .int .i64 po, .string ps, .slice none 0 0] 34)).alloc (.cells (madeCells #[Value.int .u8 0] ps.size) 5)).heap[wr.heap.size]? = some (.cells #[.int .i64 pb, .int .i64 po, .string ps, .slice none 0 0] 34 (0, 0))) := (heap_alloc_old _ _ (by simp)).trans (heap_alloc_new wr _)
        have HB0 : Hid (Below wr.heap.size wr ((wr.alloc (.cells #[.int .i64 pb, .int .i64 po, .string ps, .slice none 0 0] 34)).alloc (.cells (madeCells #[Value.int .u8 0] ps.size) 5))) := ((Below.refl _ _).alloc (Nat.le_refl _) _).alloc (by simp) _
        clear hmk
        go_loopw [13] (fun q wq => ∃ k : Nat, k ≤ n ∧ q = .int .i64 k ∧ Hid (wq.ownsRow (wr.heap.size + 1) 5 1 (.slice (some ⟨wr.heap.size + 1, 0, none⟩) n n) n (bytesV (fillD n k v))) ∧ Hid (wq.heap[wr.heap.size]? = some (.cells #[.int .i64 pb, .int .i64 po, .string ps, .slice none 0 0] 34 (0, 0))) ∧ Hid (Below wr.heap.size wr wq)) (fun q _ => n - (intOf q).toNat)
        case atStart => exact ⟨0, Nat.zero_le _, rfl, by rw [hn]; exact HO0.out, HX0.out, HB0.out⟩
        case round =>
          obtain ⟨k, hk, rfl, hO, hX, hBq⟩ := hrel
          rename World => wq
          by_cases hkn : k < n
          · have hkni : (k : Int) < (ps.size : Int) := by omega
            have hk0 : (0 : Int) ≤ (k : Int) := by omega
            have hlk : k < (bytesV (fillD n k v)).length := by rw [length_bytesV, fillD_len (by omega)]; exact hkn
            obtain ⟨ov, s0⟩ : ∃ ov, wq.cell? ⟨wr.heap.size + 1, k, none⟩ = some ov := ⟨_, (hO.out.cellAt k (by omega)).trans (List.getElem?_eq_getElem hlk)⟩
            have s1 := hO.out.frozenAt k
            have s2 : wr.heap.size + 1 < wq.heap.size := (hO.out.lt _ rfl).2
            have hSt := Lib.hid (hO.out.stored k (.int .u8 v))
            clear hlk
            go_wp2
            go_roundw
            case rel =>
              refine ⟨k + 1, by omega, by go_num, ?_, ?_, ?_⟩
              · have := hSt.out.1
                rw [fillD_step hkn, hv] at this
                rw [hv]; exact this
              · exact (heap_setCell_other wq ⟨wr.heap.size + 1, k, none⟩ wr.heap.size _ (by simp)).trans hX.out
              · exact hBq.out.setCell (by simp) _
            case measure => simp [intOf]; omega
          · obtain rfl : k = n := by omega
            have hkni : ¬ (k : Int) < (ps.size : Int) := by have := Hn.out; omega
            have HnS : Hid (fillD k k v = List.replicate k v) := fillD_all _ _
            have hv0 : 0 ≤ v ∧ v < 256 := by omega
            have hrt := row_text hO.out (fillD_len (Nat.le_refl _) v)
            rw [HnS.out] at hrt
            have Hms : Hid ((strOfNums (List.replicate k v)).size = k) := same_size hv0.1 hv0.2
            have Hmk : Hid (∀ j, j < k → nth (sb (strOfNums (List.replicate k v))) j = v) := fun j hj => same_mark hv0.1 hv0.2 hj
            generalize strOfNums (List.replicate k v) = ss at *
            rw [Hn.out] at hrt
            have q2 : wq.cell? ⟨wr.heap.size, 2, none⟩ = some (.string ps) := cell_of_row wq _ 2 _ 34 (0, 0) hX.out
            have f2 := frozen_of_row wq _ 2 _ 34 hX.out
            have q0 : wr.heap.size < wq.heap.size := (Array.getElem?_eq_some_iff.1 hX.out).1
            have HXs : Hid (BoxS wr (wq.setCell ⟨wr.heap.size, 2, none⟩ (.string ss)) ⟨pb, po, ss⟩ none 0 0 (Gr.natsI [])) := ⟨heap_setCell_same wq wr.heap.size 2 _ 34 _ hX.out, World.ownsRow_nil _ _ _ _, hBq.out.setCell (by simp) _⟩
            have HP2 : Hid ((⟨pb, po, ss⟩ : Pt).ok) := ⟨HP.out.1, HP.out.2.1, by show ss.size ≤ maxLen; rw [Hms.out]; unfold maxLen; omega⟩
            clear HnS hO hX hBq HO0 HX0 HB0
            go_wp2
            go_loopw [14] (fun q wq => ∃ (k n2 : Nat) (r : List Nat) (A2 : Option Addr) (c2 : Nat), k ≤ ds.length ∧ k ≤ 6 ∧ n2 ≤ k ∧ r.length = n2 ∧ q = .int .i64 k ∧ Hid (∀ d ∈ r, d < L.length) ∧ Hid (BoxS wr wq ⟨pb, po, ss⟩ A2 c2 n2 (Gr.natsI r))) (fun q _ => ds.length - (intOf q).toNat)
            case atStart => exact ⟨0, 0, [], none, 0, Nat.zero_le _, Nat.zero_le _, Nat.le_refl _, rfl, rfl, (fun d hd => by cases hd), HXs.out⟩
            case round =>
              obtain ⟨k, n2, r, A2, c2x, hk, hk6, hn2, hrl, rfl, hr, hX⟩ := hrel
              rename World => wq
              obtain ⟨hpb, hrow, hBq⟩ := hX.out
              have hzbq : zb < wq.heap.size := Nat.lt_of_lt_of_le hzb hBq.size
              have c3q := HC3.out wq hBq
              by_cases hkl : k < ds.length ∧ k < 6
              · obtain ⟨hkl, hk6l⟩ := hkl
                have hkli : (k : Int) < (ds.length : Int) := by omega
                have hkli6 : (k : Int) < 6 := by omega
                have hk0 : (0 : Int) ≤ (k : Int) := by omega
                obtain ⟨eb, eo, hAd, heb, _, hec⟩ := HDS.out (by omega)
                subst hAd
                have hcd := (hBq.cell (p := ⟨eb, eo + k, none⟩) heb).trans (hec k hkl)
                have hebq : eb < wq.heap.size := Nat.lt_of_lt_of_le heb hBq.size
                have hdI := hdi.out _ (List.getElem_mem hkl)
                obtain ⟨d, hd⟩ : ∃ d, d = ds[k] := ⟨_, rfl⟩
                rw [← hd] at hcd hdI
                unfold I64 at hdI
                have p3 : wq.cell? ⟨wr.heap.size, 3, none⟩ = some (.slice A2 n2 c2x) := cell_of_row wq _ 3 _ 34 (0, 0) hpb
                have hps : wr.heap.size < wq.heap.size := (Array.getElem?_eq_some_iff.1 hpb).1
                have Hrow : Hid (∀ W, Below wq.heap.size wq W → (W.alloc (.cells #[.int .i64 d] 3)).ownsRow (wr.heap.size + 1) 3 1 (.slice A2 n2 c2x) n2 (intsI (Gr.natsI r))) := fun W hW => ((Kept.fresh (S := fun _ => False) hW).row hrow (fun _ _ q => q)).alloc _
                have Hold : Hid (∀ j, (Value.slice A2 n2 c2x).ownBlock = some j → wr.heap.size + 1 ≤ j) := fun j e => (hrow.lt j e).1
                have Hnew : Hid (∀ W : World, ∀ ad, some (⟨W.heap.size, 0, none⟩ : Addr) = some ad → ∀ j u, ([.int .i64 d] : List Value)[j]? = some u → (W.alloc (.cells #[.int .i64 d] 3)).cell? (ad.add j) = some u) := fun W ad e j u hu => by
                  cases e
                  exact World.news_of_block (heap_alloc_new W _) j u hu
                clear hd hec hrow hBq hpb
                by_cases hd0 : 0 ≤ d
                · by_cases hd1 : d < (L.length : Int)
                  · obtain ⟨dn, rfl⟩ : ∃ dn : Nat, d = (dn : Int) := ⟨d.toNat, by omega⟩
                    have Hys : Hid (intsI (Gr.natsI r) ++ [.int .i64 (dn : Int)] = intsI (Gr.natsI (r ++ [dn]))) := by simp [intsI, Gr.natsI, Hid]
                    go_wp2_with (at_builtin; go_loud (refine wpList_append_src rfl (.tmp 103) (.tmp 105) 24 rfl (wr.heap.size + 1) 3 j0 (.int .i64 0) 1 8 Try.underlying24 hj0i hj0z hj01 hj02 rfl (by decide) (.slice A2 n2 c2x) n2 (intsI (Gr.natsI r)) rfl (Hrow.out _ (Below.refl _ _)) (some ⟨wq.heap.size, 0, none⟩) 1 1 [.int .i64 (dn : Int)] rfl rfl (Hnew.out wq) (fun e => by cases e) (by intro u hu; rw [List.mem_singleton] at hu; rw [hu]; rfl) (by unfold maxLen; omega) (by omega) (by simp; omega) (n2 + 1) rfl ?_; intro A3 c3' w2 ho2 hg2 hor2; have hB3 : Below (wr.heap.size + 1) wq w2 := ((Below.refl _ _).alloc (by omega) _).grown hg2 (by simp; omega) Hold.out; have HM := Lib.hid (hX.out.more (ys := Gr.natsI (r ++ [dn])) (m := n2 + 1) hB3 (by have h := ho2; rw [Hys.out] at h; exact h)); have m0 := HM.out.1.1; have m1 := HM.out.1.2; have m2 : wr.heap.size < w2.heap.size := Nat.lt_of_lt_of_le hps hB3.size; clear ho2 hg2 hor2 hB3))
                    go_roundw
                    case rel =>
                      refine ⟨k + 1, n2 + 1, r ++ [dn], A3, c3', by omega, by omega, by omega, by simp [hrl], by go_num, fun x hx => ?_, HM.out.2⟩
                      rcases List.mem_append.1 hx with hx | hx
                      · exact hr.out x hx
                      · rw [List.mem_singleton] at hx; omega
                    case measure => simp [intOf]; omega
                  · go_wp2
                    go_roundw
                    case rel => exact ⟨k + 1, n2, r, A2, c2x, by omega, by omega, by omega, hrl, by go_num, hr, hX⟩
                    case measure => simp [intOf]; omega
                · go_wp2
                  go_roundw
                  case rel => exact ⟨k + 1, n2, r, A2, c2x, by omega, by omega, by omega, hrl, by go_num, hr, hX⟩
                  case measure => simp [intOf]; omega
              · have hend : k = ds.length ∨ k = 6 := by omega
                have hrr := hr.out
                have HX := hX
                have p0 : wq.cell? ⟨wr.heap.size, 0, none⟩ = some (.int .i64 pb) := cell_of_row wq _ 0 _ 34 (0, 0) hpb
                have p1 : wq.cell? ⟨wr.heap.size, 1, none⟩ = some (.int .i64 po) := cell_of_row wq _ 1 _ 34 (0, 0) hpb
                have p2 : wq.cell? ⟨wr.heap.size, 2, none⟩ = some (.string ss) := cell_of_row wq _ 2 _ 34 (0, 0) hpb
                have p3 : wq.cell? ⟨wr.heap.size, 3, none⟩ = some (.slice A2 n2 c2x) := cell_of_row wq _ 3 _ 34 (0, 0) hpb
                have hps : wr.heap.size < wq.heap.size := (Array.getElem?_eq_some_iff.1 hpb).1
                have Hnl : Hid ((Gr.natsI r).length = n2) := by unfold Hid; rw [Gr.length_natsI]; exact hrl
                have HI : Hid (ItemsF (wq.alloc (.cells #[.int .i64 pb, .int .i64 po, .string ss, .slice A2 n2 c2x] 34)) F' (some ⟨wq.heap.size, 0, none⟩) [⟨⟨pb, po, ss⟩, Gr.natsI r⟩]) := HX.out.item Hnl.out HFl.out
                have HB2 : Hid (Below wr.heap.size wr (wq.alloc (.cells #[.int .i64 pb, .int .i64 po, .string ss, .slice A2 n2 c2x] 34))) := hBq.alloc (Nat.le_of_lt hps) _
                have HE3 := Lib.hid (hE.out.fresh HB2.out)
                have HSm : Hid (SmallI [⟨⟨pb, po, ss⟩, Gr.natsI r⟩]) := by
                  intro x hx
                  rw [List.mem_singleton] at hx
                  subst hx
                  refine ⟨HP2.out, by show (Gr.natsI r).length ≤ 1000; rw [Hnl.out]; omega, fun y hy => ?_⟩
                  obtain ⟨d, hd, rfl⟩ := List.mem_map.1 hy
                  have := hrr d hd
                  unfold I64
                  omega
                have HX2 : Hid (BoxS wr (wq.alloc (.cells #[.int .i64 pb, .int .i64 po, .string ss, .slice A2 n2 c2x] 34)) ⟨pb, po, ss⟩ A2 c2x n2 (Gr.natsI r)) := HX.out.keep ((Below.refl _ _).alloc (Nat.le_refl _) _)
                have HX2l : Hid (wr.heap.size < (wq.alloc (.cells #[.int .i64 pb, .int .i64 po, .string ss, .slice A2 n2 c2x] 34)).heap.size) := (Array.getElem?_eq_some_iff.1 HX2.out.1).1
                have HIr : Hid (IntsF (wq.alloc (.cells #[.int .i64 pb, .int .i64 po, .string ss, .slice A2 n2 c2x] 34)) F' A2 (Gr.natsI r)) := HX2.out.ints Hnl.out (fun b q => HFl.out b q)
                have HBw : Hid (Below w.heap.size w (wq.alloc (.cells #[.int .i64 pb, .int .i64 po, .string ss, .slice A2 n2 c2x] 34))) := hB.out.trans (HB2.out.mono hB.out.size)
                have hlen : l.length ≤ 200 := by obtain ⟨gd, A, c, Fd, h, rfl⟩ := hE.out; exact h.few
                clear hpb hrow hBq hrr
                by_cases hkk : k < ds.length
                all_goals (
                  have hk0 : (0 : Int) ≤ (k : Int) := by omega
                  first
                    | (have hq1 : (k : Int) < (ds.length : Int) := by omega)
                    | (have hq1 : ¬ (k : Int) < (ds.length : Int) := by omega)
                  have hq2 : (k : Int) < (ds.length : Int) → ¬ (k : Int) < 6 := by omega
                  first
                    | (have hq3 : ¬ (k : Int) < 6 := hq2 hq1)
                    | skip
                  clear hq2
                  by_cases hre : refusesE 5 (L.length : Int) l.length [⟨⟨pb, po, ss⟩, Gr.natsI r⟩] = 0
                  · go_wp2_with fail
                    refine (eadd HE3.out (some ⟨wq.heap.size, 0, none⟩) 1 [⟨⟨pb, po, ss⟩, Gr.natsI r⟩] HI.out HSm.out (by omega) (by omega) hre).mono ?_
                    rintro e x3 ⟨rfl, F3, ⟨l3, ha3, he3⟩, hk3, hf3⟩
                    obtain ⟨y3, rfl, hy3⟩ := added_one ha3
                    have HA3 := Lib.hid he3
                    have HK3 := Lib.hid hk3
                    have HF3 := Lib.hid hf3
                    have HY3 := Lib.hid hy3
                    have hb3 := (hk3.block wr.heap.size HX2l.out (fun q => absurd (HFl.out _ q) (Nat.lt_irrefl _))).trans HX2.out.1
                    have HBX3 := Lib.hid hb3
                    have HI3 := Lib.hid (HIr.out.keep hk3 (fun b q => q) (F' := F3) hf3)
                    have HAl3 := Lib.hid ((hAl.out.fresh HB2.out).keep hk3 hf3)
                    have HT3 := Lib.hid ((hT.out.fresh HB2.out).turned hk3 hf3)
                    have HR3 := Lib.hid (run_of HBw.out hF.out hk3 hf3)
                    have hw3 : w.heap.size ≤ x3.heap.size := HR3.out.1.size
                    have c3x : x3.cell? ⟨wr.heap.size, 3, none⟩ = some (.slice A2 n2 c2x) := cell_of_row x3 _ 3 _ 34 (0, 0) hb3
                    have l3x : wr.heap.size < x3.heap.size := Nat.lt_of_lt_of_le HX2l.out hk3.size
                    clear ha3 he3 hk3 hf3 hy3 hb3
                    have HMr := Lib.hid hV.out.mark.right
                    have HBa : Hid (Below x3.heap.size x3 (x3.alloc (.cells #[] 3))) := (Below.refl _ _).alloc (Nat.le_refl _) _
                    go_wp2_with (at_builtin; go_loud (refine wpList_append_src rfl (.tmp 123) (.tmp 125) 24 rfl x3.heap.size 3 j0 (.int .i64 0) 1 8 Try.underlying24 hj0i hj0z hj01 hj02 rfl (by decide) (.slice (some ⟨x3.heap.size, 0, none⟩) 0 0) 0 [] rfl (empty_row3 x3 _ (Nat.le_refl _)) A2 n2 c2x (intsI (Gr.natsI r)) rfl (by simp only [intsI, List.length_map, Nat.mul_one]; exact Hnl.out) (HI3.out.src HBa.out).1 (fun e => by have := (HI3.out.src HBa.out).2 e; rw [Hnl.out] at this; exact this) (by intro u hu; obtain ⟨y, _, rfl⟩ := List.mem_map.1 hu; rfl) (by unfold maxLen; omega) (by omega) (by simp) n2 (Nat.zero_add _) ?_; intro A4 c4 x4 ho4 hg4 hor4; have HO4 := Lib.hid ho4; have HB4 : Hid (Below x3.heap.size x3 x4) := HBa.out.grown hg4 (by simp) (fun j e => by cases e; exact Nat.le_refl _); clear ho4 hg4 hor4))
                    obtain ⟨p, hpe⟩ : ∃ p : Pt, p = ⟨pb, po, ss⟩ := ⟨_, rfl⟩
                    have Hpe := Lib.hid hpe
                    have HO40 : Hid (x4.ownsRow x3.heap.size 3 1 (.slice A4 n2 c4) n2 (intsI (Gr.natsI (behTo L r p 0)))) := by rw [behTo_zero]; exact HO4.out
                    have Hb0 : Hid ((behTo L r p 0).length = n2) := by rw [behTo_zero]; unfold Hid; exact hrl
                    have Hbl : Hid (∀ j, j ≤ L.length → (behTo L r p j).length ≤ 20) := fun j hj => by have := behTo_len L r p j; omega
                    have HP3 : Hid (p.ok) := by rw [hpe]; exact HP2.out
                    clear hpe
                    go_loopw [18, 19] (fun v q wz => ∃ (j m : Nat) (Aq : Option Addr) (cq : Nat), j ≤ L.length ∧ m ≤ 20 ∧ q = .int .i64 j ∧ v = .slice Aq m cq ∧ Hid ((behTo L r p j).length = m) ∧ Hid (wz.ownsRow x3.heap.size 3 1 (.slice Aq m cq) m (intsI (Gr.natsI (behTo L r p j)))) ∧ Hid (Below x3.heap.size x3 wz)) (fun _ q _ => L.length - (intOf q).toNat)
                    case atStart => exact ⟨0, n2, A4, c4, Nat.zero_le _, by omega, rfl, rfl, Hb0.out, HO40.out, HB4.out⟩
                    case round =>
                      obtain ⟨j, m, Aq, cq, hj, hm20, rfl, rfl, hm, hrow, hBz⟩ := hrel
                      rename World => wz
                      have hj0 : (0 : Int) ≤ (j : Int) := by omega
                      have hbz := (hBz.out.block _ l3x).trans HBX3.out
                      have p0 : wz.cell? ⟨wr.heap.size, 0, none⟩ = some (.int .i64 pb) := cell_of_row wz _ 0 _ 34 (0, 0) hbz
                      have p1 : wz.cell? ⟨wr.heap.size, 1, none⟩ = some (.int .i64 po) := cell_of_row wz _ 1 _ 34 (0, 0) hbz
                      have p2 : wz.cell? ⟨wr.heap.size, 2, none⟩ = some (.string ss) := cell_of_row wz _ 2 _ 34 (0, 0) hbz
                      have hszz := hBz.out.size
                      by_cases hjl : j < L.length
                      · have hjli : (j : Int) < (L.length : Int) := by omega
                        obtain ⟨ga, rfl, hga, a0', a1', a2'⟩ := (HAl3.out.fresh hBz.out).pat hjl
                        have HC : Hid (∀ W, Calls Try.prog 11 #[.agg #[.int .i64 (pN L j).b, .int .i64 (pN L j).o, .string (pN L j).s], .agg #[.int .i64 pb, .int .i64 po, .string ss]] W fun e w' => e = .returned (.bool ((pN L j).over p)) ∧ Below W.heap.size W w') := fun W => by
                          have h := refoverlap_any (pN L j) p W (right_ok (HMr.out j hjl)) HP3.out
                          rw [Hpe.out] at h ⊢
                          exact h
                        have HX6 : Hid (∀ W, Below wz.heap.size wz W → W.cell? ⟨ga, j * 3, none⟩ = some (.int .i64 (pN L j).b) ∧ W.cell? ⟨ga, j * 3 + 1, none⟩ = some (.int .i64 (pN L j).o) ∧ W.cell? ⟨ga, j * 3 + 2, none⟩ = some (.string (pN L j).s) ∧ W.cell? ⟨wr.heap.size, 0, none⟩ = some (.int .i64 pb) ∧ W.cell? ⟨wr.heap.size, 1, none⟩ = some (.int .i64 po) ∧ W.cell? ⟨wr.heap.size, 2, none⟩ = some (.string ss)) := fun W hW => ⟨(hW.cell (p := ⟨ga, j * 3, none⟩) hga).trans a0', (hW.cell (p := ⟨ga, j * 3 + 1, none⟩) hga).trans a1', (hW.cell (p := ⟨ga, j * 3 + 2, none⟩) hga).trans a2', (hW.cell (p := ⟨wr.heap.size, 0, none⟩) (Nat.lt_of_lt_of_le l3x hszz)).trans p0, (hW.cell (p := ⟨wr.heap.size, 1, none⟩) (Nat.lt_of_lt_of_le l3x hszz)).trans p1, (hW.cell (p := ⟨wr.heap.size, 2, none⟩) (Nat.lt_of_lt_of_le l3x hszz)).trans p2⟩
                        have HZz : Hid (Below wz.heap.size wz wz) := Below.refl _ _
                        have Hst := Lib.hid (behTo_succ L r p j)
                        generalize pN L j = pj at *
                        have hszl : wz.heap.size ≤ wz.heap.size := Nat.le_refl _
                        cases hov : pj.over p with
                        | true =>
                          rw [hov] at HC Hst
                          have Hs1 : Hid (behTo L r p (j + 1) = behTo L r p j ++ [j]) := by unfold Hid; rw [Hst.out]; simp
                          have hml : (behTo L r p (j + 1)).length ≤ 20 := Hbl.out _ (by omega)
                          have Hm1 : Hid ((behTo L r p (j + 1)).length = m + 1) := by unfold Hid; rw [Hs1.out, List.length_append, hm.out]; rfl
                          have hm1 : m + 1 ≤ 20 := by rw [← Hm1.out]; exact hml
                          have Hys : Hid (intsI (Gr.natsI (behTo L r p j)) ++ [.int .i64 (j : Int)] = intsI (Gr.natsI (behTo L r p (j + 1)))) := by unfold Hid; rw [Hs1.out]; simp [intsI, Gr.natsI]
                          clear hov Hst hml p0 p1 p2 a0' a1' a2' hbz hszl
                          go_wp2
                          go_region_held3 (fun W => W.cell? ⟨ga, j * 3, none⟩ = some (.int .i64 pj.b) ∧ W.cell? ⟨ga, j * 3 + 1, none⟩ = some (.int .i64 pj.o) ∧ W.cell? ⟨ga, j * 3 + 2, none⟩ = some (.string pj.s) ∧ W.cell? ⟨wr.heap.size, 0, none⟩ = some (.int .i64 pb) ∧ W.cell? ⟨wr.heap.size, 1, none⟩ = some (.int .i64 po) ∧ W.cell? ⟨wr.heap.size, 2, none⟩ = some (.string ss)) (first | exact HX6.out _ HZz.out | exact HX6.out _ HBo.out | exact HX6.out _ HZz.out.drew) (first | (go_at_call 11; (with_reducible refine (HC.out _).mono ?_); rintro e wo ⟨rfl, hbo⟩; have HBo : Hid (Below wz.heap.size wz wo) := ⟨hbo.os, hbo.tape, hbo.output, hbo.size, hbo.block⟩; clear hbo))
                          have hso := HBo.out.size
                          have Hro : Hid (∀ t, (wo.alloc (.cells #[t] 3)).ownsRow x3.heap.size 3 1 (.slice Aq m cq) m (intsI (Gr.natsI (behTo L r p j)))) := fun t => ((Kept.fresh (S := fun _ => False) HBo.out).row hrow.out (fun _ _ q => q)).alloc _
                          have Hlo : Hid (∀ b, (Value.slice Aq m cq).ownBlock = some b → x3.heap.size ≤ b) := fun b e => (hrow.out.lt b e).1
                          go_wp2_with (at_builtin; go_loud (refine wpList_append_src rfl (.tmp 140) (.tmp 142) 24 rfl x3.heap.size 3 j0 (.int .i64 0) 1 8 Try.underlying24 hj0i hj0z hj01 hj02 rfl (by decide) (.slice Aq m cq) m (intsI (Gr.natsI (behTo L r p j))) rfl (Hro.out _) (some ⟨wo.heap.size, 0, none⟩) 1 1 [.int .i64 (j : Int)] rfl rfl news1 (fun e => by cases e) (by intro u hu; rw [List.mem_singleton] at hu; rw [hu]; rfl) (by unfold maxLen; omega) (by omega) (by simp; omega) (m + 1) rfl ?_; intro A5 c5 x5 ho5 hg5 hor5; rw [Hys.out] at ho5; have HO5 := Lib.hid ho5; have HB5 : Hid (Below x3.heap.size x3 x5) := hBz.out.trans ((((HBo.out.mono (Nat.le_trans hszz (Nat.le_refl _))).alloc (by omega) _)).grown hg5 (by simp; omega) Hlo.out); clear ho5 hg5 hor5))
                          go_roundw
                          case rel => exact ⟨j + 1, m + 1, A5, c5, by omega, by omega, by go_num, rfl, Hm1.out, HO5.out, HB5.out⟩
                          case measure => simp [intOf]; omega
                        | false =>
                          rw [hov] at HC Hst
                          have Hs1 : Hid (behTo L r p (j + 1) = behTo L r p j) := by unfold Hid; rw [Hst.out]; simp
                          clear hov Hst p0 p1 p2 a0' a1' a2' hbz hszl
                          go_wp2
                          go_region_held3 (fun W => W.cell? ⟨ga, j * 3, none⟩ = some (.int .i64 pj.b) ∧ W.cell? ⟨ga, j * 3 + 1, none⟩ = some (.int .i64 pj.o) ∧ W.cell? ⟨ga, j * 3 + 2, none⟩ = some (.string pj.s) ∧ W.cell? ⟨wr.heap.size, 0, none⟩ = some (.int .i64 pb) ∧ W.cell? ⟨wr.heap.size, 1, none⟩ = some (.int .i64 po) ∧ W.cell? ⟨wr.heap.size, 2, none⟩ = some (.string ss)) (first | exact HX6.out _ HZz.out | exact HX6.out _ HBo.out | exact HX6.out _ HZz.out.drew) (first | (go_at_call 11; (with_reducible refine (HC.out _).mono ?_); rintro e wo ⟨rfl, hbo⟩; have HBo : Hid (Below wz.heap.size wz wo) := ⟨hbo.os, hbo.tape, hbo.output, hbo.size, hbo.block⟩; clear hbo))
                          have HO5 := Lib.hid ((Kept.fresh (S := fun _ => False) HBo.out).row hrow.out (fun _ _ q => q))
                          have HB5 : Hid (Below x3.heap.size x3 wo) := hBz.out.trans (HBo.out.mono hszz)
                          go_wp2_with fail
                          go_roundw
                          case rel => exact ⟨j + 1, m, Aq, cq, by omega, by omega, by go_num, rfl, by unfold Hid; rw [Hs1.out]; exact hm.out, by rw [Hs1.out]; exact HO5.out, HB5.out⟩
                          case measure => simp [intOf]; omega
                      · obtain rfl : j = L.length := by omega
                        have hjli : ¬ (L.length : Int) < (L.length : Int) := by omega
                        have HAz := Lib.hid (HAl3.out.fresh hBz.out)
                        have HTz := Lib.hid (HT3.out.fresh hBz.out)
                        have HEz := Lib.hid (HA3.out.fresh hBz.out)
                        have HWz : Hid (Below w.heap.size w wz) := HR3.out.1.trans (hBz.out.mono hw3)
                        have hwz : w.heap.size ≤ wz.heap.size := HWz.out.size
                        have HBa6 : Hid (Below wz.heap.size wz (wz.alloc (.cells #[.int .i64 pb, .int .i64 po, .string ss] 32))) := (Below.refl _ _).alloc (Nat.le_refl _) _
                        have HF3lt : Hid (∀ b, F3 b → b < x3.heap.size) := HA3.out.lt
                        have HAAlt : Hid (∀ b, own AA = some b → b < x3.heap.size) := fun b e => (HAl3.out.lt b e).2
                        have HADlt : Hid (∀ b, own AD = some b → b < x3.heap.size) := fun b e => (HT3.out.lt b e).2
                        have hL14 : L.length ≤ 14 := by omega
                        have Hrl : Hid (∀ b, (Value.slice Aq m cq).ownBlock = some b → x3.heap.size ≤ b ∧ b < wz.heap.size) := fun b e => hrow.out.lt b e
                        clear hbz
                        go_upto_region 29 with (first
                          | (at_builtin; refine wpList_append_src rfl (.tmp 144) (.tmp 147) 29 rfl w.heap.size 32 k0 _ 3 32 Try.underlying29 hk0i hk0z hk01 hk02 rfl (by decide) (.slice AA L.length cA) L.length (ptsV L) rfl (HAz.out.row.alloc _) (some ⟨wz.heap.size, 0, none⟩) 1 1 [.int .i64 pb, .int .i64 po, .string ss] rfl rfl (fun ad e j u hu => by cases e; exact World.news_of_block (heap_alloc_new wz _) j u hu) (fun e => by cases e) (by intro u hu; simp at hu; rcases hu with rfl | rfl | rfl <;> rfl) (by unfold maxLen; omega) (by omega) (by simp; omega) (L.length + 1) rfl ?_; intro A6 c6 x6 ho6 hg6 hor6; rw [own_eq] at hg6; rw [own_eq, own_eq] at hor6; have HO6 := Lib.hid ho6; have HG6 := Lib.hid hg6; have HQ6 := Lib.hid hor6; have HT6 := Lib.hid ((HTz.out.fresh HBa6.out).alled hg6 hor6); have HB6 : Hid (Below w.heap.size w x6) := (HWz.out.alloc hwz _).grown hg6 (by simp; omega) (fun j e => (HAz.out.lt j e).1); have hw6 : w.heap.size ≤ x6.heap.size := HB6.out.size; clear ho6 hg6 hor6)
                          | (at_builtin; refine wpList_append_src rfl (.tmp 149) (.tmp 151) 30 rfl w.heap.size 24 r0 (.slice none 0 0) 1 24 Try.underlying30 hr0i hr0z hr01 hr02 rfl (by decide) (.slice AD L.length cD) L.length (tabV D Af Cf) rfl (by rw [← hDL]; exact HT6.out.tab.alloc _) (some ⟨x6.heap.size, 0, none⟩) 1 1 [.slice Aq m cq] rfl rfl news1 (fun e => by cases e) (by intro u hu; rw [List.mem_singleton] at hu; rw [hu]; rfl) (by unfold maxLen; omega) (by omega) (by simp; omega) (L.length + 1) rfl ?_; intro A7 c7 x7 ho7 hg7 hor7; rw [own_eq] at hg7; rw [own_eq, own_eq] at hor7; have HO7 := Lib.hid ho7; have HG7 := Lib.hid hg7; have HQ7 := Lib.hid hor7; clear ho7 hg7 hor7))
                        have Hrow6 : Hid (x6.ownsRow x3.heap.size 3 1 (.slice Aq m cq) m (intsI (Gr.natsI (behR L r p)))) := World.ownsRow.kept (hrow.out.alloc _) HG6.out (by
                          cases hq : (Value.slice Aq m cq).ownBlock with
                          | none => exact .inl rfl
                          | some b =>
                            refine .inr fun e => ?_
                            have h1 := (Hrl.out b hq).1
                            have h2 := HAAlt.out b e.symm
                            omega)
                        have HAl6 : Hid (AllT x6 F3 w.heap.size A6 c6 (L ++ [p])) := (HAz.out.fresh HBa6.out).add (fun b q => by have := HF3lt.out b q; have := hBz.out.size; simp; omega) (by rw [Hpe.out]; exact HO6.out) (by rw [World.size_alloc] at *; exact HQ6.out)
                        have HE6 := Lib.hid ((HEz.out.fresh HBa6.out).alled (HAz.out.fresh HBa6.out) HG6.out)
                        have HBa7 : Hid (Below x6.heap.size x6 (x6.alloc (.cells #[.slice Aq m cq] 24))) := (Below.refl _ _).alloc (Nat.le_refl _) _
                        have HE7 := Lib.hid ((HE6.out.fresh HBa7.out).tabbed2 (HT6.out.fresh HBa7.out) HG7.out)
                        have HAl7 : Hid (AllT x7 F3 w.heap.size A6 c6 (L ++ [p])) := (HAl6.out.fresh HBa7.out).tabbed (HT6.out.fresh HBa7.out) HG7.out
                        have h36 : x3.heap.size ≤ x6.heap.size := by have h1 := hBz.out.size; have h2 := HG6.out.size; simp at h2; omega
                        have HIr6 : Hid (IntsF x6 (fun b => (F3 b ∨ own A6 = some b) ∨ own AD = some b) Aq (Gr.natsI (behR L r p))) := row_intsF Hrow6.out (by rw [Gr.length_natsI, ← behTo_all]; exact hm.out) (fun b h1 h2 h3 q => by
                          have hb := (Hrl.out b (by rw [own_eq]; exact h3)).2
                          rcases q with (q | q) | q
                          · have := HF3lt.out b q; omega
                          · rcases HQ6.out with e | e
                            · rw [e] at q; have := HAAlt.out b q; omega
                            · rw [e] at q; have q2 := Option.some.inj q; simp at q2; omega
                          · have := HADlt.out b q; omega)
                        have hbl : (behR L r p).length = m := by rw [← behTo_all]; exact hm.out
                        have HT7 := Lib.hid ((HT6.out.fresh HBa7.out).add (r := behR L r p) (Ar := Aq) (cr := cq) (fun b q => by
                          rcases q with q | q
                          · have := HF3lt.out b q; simp; omega
                          · have := (HAl6.out.lt b q).2; simp; omega) (HIr6.out.keep (Kept.fresh (S := fun _ => False) HBa7.out) (fun _ q => q.elim) (fun b q => .inl q)) (by rw [hDL, hbl]; exact HO7.out) HG7.out HQ7.out)
                        have HB7 : Hid (Below w.heap.size w x7) := (HB6.out.alloc hw6 _).grown HG7.out (by simp; omega) (fun j e => (HT6.out.lt j e).1)
                        obtain ⟨hpr, hpb⟩ := (refuses_ok hre).1 _ (List.mem_singleton.2 rfl)
                        replace hpr : p.right = true := by rw [Hpe.out]; exact hpr
                        replace hpb : p.b < (5 : Nat) := by rw [Hpe.out]; exact hpb
                        have HV7 : Hid (VS (pN (L ++ [p])) (Gr.rowN (D ++ [behR L r p])) (L ++ [p]).length S (l ++ [y3])) := by
                          have hY := HY3.out
                          rw [← Hpe.out] at hY
                          have h := hV.out.one hDL hr.out hY hpr (fun j hj => by rw [Hpe.out] at hj ⊢; rw [Hmk.out j (by rw [← Hms.out]; exact hj), hv]) hOk.out.right.2
                          rw [show (L ++ [p]).length = L.length + 1 by simp]; exact h
                        have HOk7 : Hid (Gr.OkD (D ++ [behR L r p])) := okD_add hOk.out (by omega) (fun d hd => by rw [hDL]; exact behR_lt hr.out d hd) (by rw [hbl]; omega)
                        have HP57 : Hid (∀ k, k < (L ++ [p]).length → (pN (L ++ [p]) k).b < (5 : Nat)) := fun k hk => by
                          rw [List.length_append] at hk
                          rw [pN_snoc]
                          by_cases h1 : k < L.length
                          · rw [if_pos h1]; exact hP5.out k h1
                          · have h2 : k = L.length := by simp at hk; omega
                            rw [if_neg h1, if_pos h2]; exact hpb
                        have hDL7 : (D ++ [behR L r p]).length = (L ++ [p]).length := by simp; exact hDL
                        have hL7 : (L ++ [p]).length = L.length + 1 := by simp
                        have HE7' : Hid (Eng x7 ge 5 S cc ((L ++ [p]).length : Int) (l ++ [y3]) F3) := by
                          have h := HE7.out
                          have e : ((L ++ [p]).length : Int) = (L.length : Int) + (([⟨⟨pb, po, ss⟩, Gr.natsI r⟩] : List It).length : Int) := by simp
                          unfold Hid
                          rw [e]; exact h
                        have HF37 := Lib.hid HR3.out.2
                        clear HE7 hpr hpb HIr6 HAl6 HE6 HT6 Hrow6 HG7 HQ7 HO7 HG6 HQ6 HO6 hrow hBz hm HAz HTz HEz HWz HBa6 HBa7 HY3 HA3 HK3 HF3 HI3 HAl3 HT3 HBX3 c3x l3x hwz hw6 h36 HMr hbl
                        generalize D ++ [behR L r p] = D7 at *
                        generalize L ++ [p] = L7 at *
                        generalize l ++ [y3] = l7 at *
                        generalize (fun j => if j < D.length then Af j else Aq) = Af7 at *
                        generalize (fun j => if j < D.length then Cf j else cq) = Cf7 at *
                        have hcc4 : cc < 99999 := by omega
                        by_cases hwl : i < len1
                        · have hwli : (i : Int) < (len1 : Int) := by omega
                          have hjz : i < z1.length := by rw [HL1.out]; exact hwl
                          obtain ⟨yb, yo, rfl, hyb, hyc⟩ := HR1.out (by omega)
                          have hc := (HB7.out.cell (p := ⟨yb, yo + i, none⟩) hyb).trans (hyc i hjz)
                          have hz8 := HA1.out _ (List.getElem_mem hjz)
                          obtain ⟨z, hz⟩ : ∃ z, z = z1[i] := ⟨_, rfl⟩
                          rw [← hz] at hc hz8
                          obtain ⟨m5, hm5⟩ : ∃ m5 : Nat, m5 = z.toNat % 5 := ⟨_, rfl⟩
                          have hm5l : m5 < 5 := by omega
                          have hzi : z % 5 = (m5 : Int) := by omega
                          have hybw : yb < x7.heap.size := Nat.lt_of_lt_of_le hyb HB7.out.size
                          have HW := Lib.hid (ewrite_any HE7'.out hm5l hcc4)
                          have HV8 := Lib.hid (HV7.out.write m5)
                          generalize wrN S l7 m5 = r1 at HW
                          generalize wrE S l7 m5 = r2 at HW
                          generalize wrS S l7 m5 = S4 at HW HV8
                          generalize wrL S l7 m5 = l4 at HW HV8
                          have Hzc : Hid (∀ W, Below w.heap.size w W → W.cell? ⟨yb, yo + i, none⟩ = some (.int .u8 z)) := fun W hW => by rw [hz]; exact (hW.cell (p := ⟨yb, yo + i, none⟩) hyb).trans (hyc i hjz)
                          have hcc1 : cc + 1 < 100000 := by omega
                          clear hz hm5 hyc
                          by_cases h7 : z % 7 = 0
                          · go_wp2_with (first
                              | (go_at_call 12; refine HW.out.mono ?_; rintro e x8 ⟨rfl, F4, he4, hk4, hf4⟩; have HE8 := Lib.hid he4; have HT8 := Lib.hid (HT7.out.turned hk4 hf4); have HAl8 := Lib.hid (HAl7.out.keep hk4 hf4); have HR8 := Lib.hid (run_of HB7.out HF37.out hk4 hf4); have hc4 := Hzc.out _ HR8.out.1; have hzb4 : yb < x8.heap.size := Nat.lt_of_lt_of_le hyb HR8.out.1.size; clear he4 hk4 hf4)
                              | (go_at_call 13; refine (eflush HE8.out hcc1).mono ?_; rintro e x9 ⟨rfl, F5, he5, hk5, hf5⟩; have HE9 := Lib.hid he5; have HT9 := Lib.hid (HT8.out.turned hk5 hf5); have HAl9 := Lib.hid (HAl8.out.keep hk5 hf5); have HR9 := Lib.hid (run_of HR8.out.1 HR8.out.2 hk5 hf5); have HV9 := Lib.hid HV8.out.flush; clear he5 hk5 hf5))
                            go_roundw
                            case rel => exact ⟨i + 1, cc + 1, L7, D7, _, _, A6, c6, A7, c7, Af7, Cf7, F5, by omega, by omega, by omega, by omega, hDL7, by rw [hL7], by rw [hDL7, hL7], by go_num, HE9.out, HV9.out, HAl9.out, HT9.out, HOk7, HP57, HR9.out.2, HR9.out.1⟩
                            case measure => simp [intOf]; omega
                          · go_wp2_with (first
                              | (go_at_call 12; refine HW.out.mono ?_; rintro e x8 ⟨rfl, F4, he4, hk4, hf4⟩; have HE8 := Lib.hid he4; have HT8 := Lib.hid (HT7.out.turned hk4 hf4); have HAl8 := Lib.hid (HAl7.out.keep hk4 hf4); have HR8 := Lib.hid (run_of HB7.out HF37.out hk4 hf4); have hc4 := Hzc.out _ HR8.out.1; have hzb4 : yb < x8.heap.size := Nat.lt_of_lt_of_le hyb HR8.out.1.size; clear he4 hk4 hf4))
                            go_roundw
                            case rel => exact ⟨i + 1, cc + 1, L7, D7, _, _, A6, c6, A7, c7, Af7, Cf7, F4, by omega, by omega, by omega, by omega, hDL7, by rw [hL7], by rw [hDL7, hL7], by go_num, HE8.out, HV8.out, HAl8.out, HT8.out, HOk7, HP57, HR8.out.2, HR8.out.1⟩
                            case measure => simp [intOf]; omega
                        · have hwli : ¬ (i : Int) < (len1 : Int) := by omega
                          go_wp2_with fail
                          go_roundw
                          case rel => exact ⟨i + 1, cc, L7, D7, S, l7, A6, c6, A7, c7, Af7, Cf7, F3, by omega, by omega, by omega, by omega, hDL7, by rw [hL7], by rw [hDL7, hL7], by go_num, HE7'.out, HV7.out, HAl7.out, HT7.out, HOk7, HP57, HF37.out, HB7.out⟩
                          case measure => simp [intOf]; omega
                  · have HNo := Lib.hid (eadd_no HE3.out (some ⟨wq.heap.size, 0, none⟩) 1 [⟨⟨pb, po, ss⟩, Gr.natsI r⟩] HI.out HSm.out (by simp) hre)
                    generalize refusesE 5 (L.length : Int) l.length [⟨⟨pb, po, ss⟩, Gr.natsI r⟩] = E at HNo hre
                    go_wp2_with (go_at_call 10; refine HNo.out.mono ?_; rintro e x3 ⟨rfl, hb3⟩; have HB3 := Lib.hid (HB2.out.trans (hb3.mono HB2.out.size)); clear hb3)
                    go_roundw
                    case rel => exact ⟨i + 1, cc, L, D, S, l, AA, cA, AD, cD, Af, Cf, F', by omega, by omega, by omega, by omega, hDL, rfl, by rw [hDL], by go_num, hE.out.fresh HB3.out, hV, hAl.out.fresh HB3.out, hT.out.fresh HB3.out, hOk, hP5, hF, hB.out.trans (HB3.out.mono hB.out.size)⟩
                    case measure => simp [intOf]; omega)
    · have hLl : L.length ≤ 14 := by omega
      have hccl : cc < 100000 := by omega
      have hi0 : (0 : Int) ≤ (i : Int) := by omega
      by_cases hlt0 : i < len0
      all_goals (as_aux_lemma =>
        first
          | (have hq1 : (i : Int) < (len0 : Int) := by omega)
          | (have hq1 : ¬ (i : Int) < (len0 : Int) := by omega)
        have hq2 : (i : Int) < (len0 : Int) → ¬ (i : Int) < 14 := by omega
        first
          | (have hq3 : ¬ (i : Int) < 14 := hq2 hq1)
          | skip
        clear hq2 hlt
        have hn2 := H2.out.1
        have HI2 : Hid (∀ x ∈ z2, -9223372036854775808 ≤ x ∧ x ≤ 9223372036854775807) := H2.out.2.2.2.1
        have HPk := Lib.hid (pick_of' H2.out hB.out)
        subst hn2
        have HSz := Lib.hid (esize hE.out)
        have HCr := Lib.hid (ecrash hE.out hccl z2 HI2.out a2 cap2 HPk.out)
        have HWt : Hid (∀ W, Below wr.heap.size wr W → Calls Try.prog 17 #[.pointer (some ⟨ge, 0, none⟩)] W (Says W (numsL l))) := fun W hW => ewaiting (hE.out.fresh hW)
        have HE64 : Hid (∀ x ∈ numsL l, -9223372036854775808 ≤ x ∧ x ≤ 9223372036854775807) := by
          obtain ⟨gd, A, c, Fd, h, rfl⟩ := hE.out
          intro x hx
          obtain ⟨y, hy, rfl⟩ := List.mem_map.1 hx
          have := h.lo y hy
          omega
        have HFw : Hid ((numsL l).length ≤ 200) := by obtain ⟨gd, A, c, Fd, h, rfl⟩ := hE.out; unfold Hid numsL; rw [List.length_map]; exact h.few
        clear HR0 HW0 HL0 HR1 HA1 HL1 HBk H2 HD HE2' HV2 HF2 HB2 HPk
        go_wp2_with (first
          | (go_at_call 14; refine HSz.out.mono ?_; rintro e xz ⟨rfl, rfl⟩)
          | (go_at_call 16; refine HCr.out.mono ?_; rintro e x3 ⟨d3, F3, rfl, hd3, hf3, hb3⟩; have HD3 := Lib.hid hd3; have HB3 := Lib.hid hb3; clear hd3 hf3 hb3)
          | (go_at_call 15; refine (lasting_any HD3.out).mono ?_; rintro e x4 ⟨A4, c4, rfl, ho4, hb4⟩; have HO4 := Lib.hid ho4; have hs34 := hb4.size; have HB4 := Lib.hid (HB3.out.trans (hb4.mono HB3.out.size)); clear ho4 hb4)
          | (go_at_call 17; refine (HWt.out _ HB4.out).mono ?_; rintro e x5 ⟨A5, c5, rfl, ho5, hb5⟩; have HO5 := Lib.hid ho5; have HO45 := Lib.hid (row_below HO4.out hb5); have HB5 := Lib.hid (HB4.out.trans (hb5.mono HB4.out.size)); have hs45 := hb5.size; clear ho5 hb5))
        have H32 : Hid (∀ b, b < 5 → (crashed 5 S z2 b).s.length = 32) := fun b hb => (HD3.out.okS hb).1
        have HVS := hV
        obtain ⟨img, himg⟩ : ∃ img, img = imgs (crashed 5 S z2) 5 := ⟨_, rfl⟩
        have Himg := Lib.hid himg
        rw [← himg] at HO45
        have HAb : Hid (∀ x ∈ img, 0 ≤ x ∧ x ≤ 255) := fun x hx => by
          rw [himg] at hx
          obtain ⟨b, hb, hq⟩ := List.mem_flatMap.1 hx
          exact (HD3.out.okS (List.mem_range.1 hb)).2 x hq
        have Hi160 : Hid (img.length = 160) := by unfold Hid; rw [himg, flat5_imgs]; exact flat5_len H32.out
        obtain ⟨nW, hnW⟩ : ∃ nW, nW = (numsL l).length := ⟨_, rfl⟩
        have HnW := Lib.hid hnW
        rw [← hnW] at HO5 HFw ⊢
        have hnW200 : nW ≤ 200 := HFw.out
        have HI64 : Hid (∀ k, k < nW → -9223372036854775808 ≤ nth (numsL l) k ∧ nth (numsL l) k ≤ 9223372036854775807) := fun k hk => by
          have hm := HE64.out _ (nth_memI (by rw [← hnW]; exact hk))
          exact hm
        clear himg hnW HO4
        have h45 : x3.heap.size ≤ x5.heap.size := Nat.le_trans hs34 hs45
        go_loopw [22, 23] (fun v q wy => ∃ (j m : Nat) (Aq : Option Addr) (cq : Nat), j ≤ L.length ∧ m ≤ 14 ∧ q = .int .i64 j ∧ v = .slice Aq m cq ∧ Hid ((seenTo l img j).length = m) ∧ Hid (wy.ownsRow x5.heap.size 3 1 (.slice Aq m cq) m (intsI (Gr.natsI (seenTo l img j)))) ∧ Hid (Below x5.heap.size x5 wy)) (fun _ q _ => L.length - (intOf q).toNat)
        case atStart => exact ⟨0, 0, none, 0, Nat.zero_le _, Nat.zero_le _, rfl, rfl, rfl, World.ownsRow_nil _ _ _ _, Below.refl _ _⟩
        case round =>
          obtain ⟨j, m, Aq, cq, hj, hm14, rfl, rfl, hm, hrow, hBy⟩ := hrel
          rename World => wy
          have hj0 : (0 : Int) ≤ (j : Int) := by omega
          have hszy := hBy.out.size
          by_cases hjl : j < L.length
          · have hjli : (j : Int) < (L.length : Int) := by omega
            go_wp2
            go_loopw [24, 25] (fun b q wu => ∃ k : Nat, k ≤ nW ∧ q = .int .i64 k ∧ b = .bool (isW l j k) ∧ Hid (Below wy.heap.size wy wu)) (fun _ q _ => nW - (intOf q).toNat)
            case atStart => exact ⟨0, Nat.zero_le _, rfl, rfl, Below.refl _ _⟩
            case round =>
              obtain ⟨k, hk, rfl, rfl, hBu⟩ := hrel
              rename World => wu
              have hk0 : (0 : Int) ≤ (k : Int) := by omega
              have hB5u : Hid (Below x5.heap.size x5 wu) := hBy.out.trans (hBu.out.mono hszy)
              by_cases hkn : k < nW
              · have hkni : (k : Int) < (nW : Int) := by omega
                have Hst := Lib.hid (isW_succ l j (j := k) (by rw [← HnW.out]; exact hkn))
                obtain ⟨g5, rfl, _, hg5, hc5⟩ := ints_at (row_below HO5.out hB5u.out) HnW.out.symm hkn
                have hI64 := HI64.out k hkn
                generalize nth (numsL l) k = y at *
                cases hb : isW l j k with
                | true =>
                  rw [hb] at Hst
                  clear hb
                  go_wp2
                  go_roundw
                  case rel => exact ⟨k + 1, by omega, by go_num, by rw [Hst.out]; rfl, hBu⟩
                  case measure => simp [intOf]; omega
                | false =>
                  rw [hb] at Hst
                  clear hb
                  go_wp2
                  go_roundw
                  case rel => exact ⟨k + 1, by omega, by go_num, by rw [Hst.out]; rfl, hBu⟩
                  case measure => simp [intOf]; omega
              · obtain rfl : k = nW := by omega
                have hkni : ¬ (k : Int) < (k : Int) := by omega
                go_wp2
                go_loopw [24, 26] (fun b q wx => ∃ t : Nat, t ≤ 160 ∧ q = .int .i64 t ∧ b = .bool (isW l j k || isB img j t) ∧ Hid (Below wu.heap.size wu wx)) (fun _ q _ => 160 - (intOf q).toNat)
                case atStart => exact ⟨0, Nat.zero_le _, rfl, by rw [show isB img j 0 = false from rfl, Bool.or_false], Below.refl _ _⟩
                case round =>
                  obtain ⟨t, ht, rfl, rfl, hBx⟩ := hrel
                  rename World => wx
                  have ht0 : (0 : Int) ≤ (t : Int) := by omega
                  have hB5x : Hid (Below x5.heap.size x5 wx) := hB5u.out.trans (hBx.out.mono hB5u.out.size)
                  by_cases htn : t < 160
                  · have htni : (t : Int) < ((160 : Nat) : Int) := by omega
                    have Hst := Lib.hid (isB_succ img j (j := t) (by rw [Hi160.out]; exact htn))
                    obtain ⟨g4, rfl, _, hg4, hc4⟩ := bytes_at (row_below HO45.out hB5x.out) Hi160.out htn
                    have hz8 := HAb.out _ (nth_memI (l := img) (k := t) (by rw [Hi160.out]; exact htn))
                    generalize nth img t = y at *
                    have hw64 : wrap64 y = y := IntWalk.wrap64_in _ ⟨by omega, by omega⟩
                    cases hb : (isW l j k || isB img j t) with
                    | true =>
                      have Hb1 : Hid ((isW l j k || isB img j (t + 1)) = true) := by unfold Hid; rw [Hst.out, ← Bool.or_assoc, hb]; rfl
                      clear hb Hst
                      go_wp2
                      go_roundw
                      case rel => exact ⟨t + 1, by omega, by go_num, by rw [Hb1.out], hBx⟩
                      case measure => simp [intOf]; omega
                    | false =>
                      have Hb1 : Hid ((isW l j k || isB img j (t + 1)) = (y == (j : Int) + 1)) := by unfold Hid; rw [Hst.out, ← Bool.or_assoc, hb]; rfl
                      clear hb Hst
                      go_wp2
                      go_roundw
                      case rel => exact ⟨t + 1, by omega, by go_num, by rw [Hb1.out], hBx⟩
                      case measure => simp [intOf]; omega
                  · obtain rfl : t = 160 := by omega
                    simp only [show ((160 : Nat) : Int) = 160 from rfl]
                    have htni : ¬ (160 : Int) < 160 := by omega
                    have Hse : Hid ((isW l j k || isB img j 160) = seenB l img j) := by
                      have h := seenB_eq l img j
                      rw [Hi160.out, ← HnW.out] at h
                      exact h
                    rw [Hse.out]
                    have Hst := Lib.hid (seenTo_succ l img j)
                    have Hro : Hid (∀ u, (wx.alloc (.cells #[u] 3)).ownsRow x5.heap.size 3 1 (.slice Aq m cq) m (intsI (Gr.natsI (seenTo l img j)))) := fun u => ((Kept.fresh (S := fun _ => False) (hBu.out.trans (hBx.out.mono hBu.out.size))).row hrow.out (fun _ _ q => q)).alloc _
                    have Hr2 : Hid (wx.ownsRow x5.heap.size 3 1 (.slice Aq m cq) m (intsI (Gr.natsI (seenTo l img j)))) := (Kept.fresh (S := fun _ => False) (hBu.out.trans (hBx.out.mono hBu.out.size))).row hrow.out (fun _ _ q => q)
                    have Hlo : Hid (∀ b, (Value.slice Aq m cq).ownBlock = some b → x5.heap.size ≤ b) := fun b e => (hrow.out.lt b e).1
                    have hsx := hB5x.out.size
                    have hml := seenTo_len l img (j + 1)
                    cases hb : seenB l img j with
                    | true =>
                      rw [hb] at Hst
                      have Hs1 : Hid (seenTo l img (j + 1) = seenTo l img j ++ [j]) := by unfold Hid; rw [Hst.out]; simp
                      have Hm1 : Hid ((seenTo l img (j + 1)).length = m + 1) := by unfold Hid; rw [Hs1.out, List.length_append, hm.out]; rfl
                      have hm1 : m + 1 ≤ 14 := by have := Hm1.out; omega
                      have Hys : Hid (intsI (Gr.natsI (seenTo l img j)) ++ [.int .i64 (j : Int)] = intsI (Gr.natsI (seenTo l img (j + 1)))) := by unfold Hid; rw [Hs1.out]; simp [intsI, Gr.natsI]
                      clear hb Hst hml
                      go_wp2_with (at_builtin; go_loud (refine wpList_append_src rfl (.tmp 225) (.tmp 227) 24 rfl x5.heap.size 3 j0 (.int .i64 0) 1 8 Try.underlying24 hj0i hj0z hj01 hj02 rfl (by decide) (.slice Aq m cq) m (intsI (Gr.natsI (seenTo l img j))) rfl (Hro.out _) (some ⟨wx.heap.size, 0, none⟩) 1 1 [.int .i64 (j : Int)] rfl rfl news1 (fun e => by cases e) (by intro u hu; rw [List.mem_singleton] at hu; rw [hu]; rfl) (by unfold maxLen; omega) (by omega) (by simp; omega) (m + 1) rfl ?_; intro A9 c9 x9 ho9 hg9 hor9; rw [Hys.out] at ho9; have HO9 := Lib.hid ho9; have HB9 : Hid (Below x5.heap.size x5 x9) := (hB5x.out.alloc (by omega) _).grown hg9 (by simp; omega) Hlo.out; clear ho9 hg9 hor9))
                      go_roundw
                      case rel => exact ⟨j + 1, m + 1, A9, c9, by omega, by omega, by go_num, rfl, Hm1.out, HO9.out, HB9.out⟩
                      case measure => simp [intOf]; omega
                    | false =>
                      rw [hb] at Hst
                      have Hs1 : Hid (seenTo l img (j + 1) = seenTo l img j) := by unfold Hid; rw [Hst.out]; simp
                      clear hb Hst hml
                      go_wp2_with fail
                      go_roundw
                      case rel => exact ⟨j + 1, m, Aq, cq, by omega, by omega, by go_num, rfl, by unfold Hid; rw [Hs1.out]; exact hm.out, by rw [Hs1.out]; exact Hr2.out, hB5x.out⟩
                      case measure => simp [intOf]; omega
          · obtain rfl : j = L.length := by omega
            have hjli : ¬ (L.length : Int) < (L.length : Int) := by omega
            have HMt : Hid (Gr.Mat wy wy.heap.size AD (Gr.rowsI D)) := (hT.out.fresh (HB5.out.trans (hBy.out.mono HB5.out.size))).mat
            have hml := seenTo_len l img L.length
            have HCl := Lib.hid (Gr.refclose_yes AD cD L.length D hDL.symm hOk.out Aq cq m (Gr.natsI (seenTo l img L.length)) (by rw [Gr.length_natsI]; exact hm.out.symm) (by rw [Gr.length_natsI]; omega) wy HMt.out (grow_row (by rw [Gr.length_natsI]; exact hm.out) hrow.out))
            have HE : Hid (flat5 (wantB (pN L) (Gr.closeL D (Gr.natsI (seenTo l img L.length)))) = img) := by
              have h := want_end (P := pN L) (D := D) (S := S) (l := l) (by rw [hDL]; exact hV.out) hOk.out (by rw [hDL]; exact hP5.out) z2 H32.out
              unfold Hid
              rw [← Himg.out, hDL] at h
              exact h
            have HClt : Hid (∀ x ∈ Gr.closeL D (Gr.natsI (seenTo l img L.length)), x < L.length) := fun x hx => by rw [← hDL]; exact close_lt hx
            have hcl14 : (Gr.closeL D (Gr.natsI (seenTo l img L.length))).length ≤ 14 := by
              rw [closeC_list]
              have := List.length_filter_le (closeC D (Gr.natsI (seenTo l img L.length))) (List.range D.length)
              rw [List.length_range] at this
              omega
            generalize Gr.closeL D (Gr.natsI (seenTo l img L.length)) = cl at *
            have HR : Hid (∀ k ∈ cl, (pN L k).right = true) := fun k hk => hV.out.mark.right k (HClt.out k hk)
            have hmk160 : ∀ W, (Instr.makeSlice 23 (.int .i64 160) (.int .i64 160)).run Try.prog W = .ok (.slice (some ⟨W.heap.size, 0, none⟩) 160 160) (W.alloc (.cells (bytesV (List.replicate 160 0)).toArray 5)) := fun W => by
              have := run_make_row' (P := Try.prog) 23 5 (.int .u8 0) 1 Try.underlying23 info5 rfl .i64 .i64 160 (by omega) (by omega) W
              rwa [made_bytes] at this
            have HBy : Hid (Below wr.heap.size wr wy) := HB5.out.trans (hBy.out.mono HB5.out.size)
            clear hm hrow hml HMt
            go_upto_region 54 with (first | (go_at_call 18; refine HCl.out.mono ?_; rintro e x8 ⟨v8, rfl, ho8, hb8⟩; obtain ⟨A8, c8, rfl⟩ := own_form ho8; have HO8 := Lib.hid ho8; have HB8 := Lib.hid (HBy.out.trans (hb8.mono HBy.out.size)); have HB58 := Lib.hid (hBy.out.trans (hb8.mono hBy.out.size)); clear ho8 hb8))
            have HG0 : Hid (BlkIs (x8.alloc (.cells (bytesV (List.replicate 160 0)).toArray 5)) x8.heap.size 5 (bytesV (flat5 (wantB (pN L) (cl.take 0))))) := by rw [List.take_zero, want_zero]; exact heap_alloc_new x8 _
            have HB9 : Hid (Below x8.heap.size x8 (x8.alloc (.cells (bytesV (List.replicate 160 0)).toArray 5))) := (Below.refl _ _).alloc (Nat.le_refl _) _
            obtain ⟨nC, hnC⟩ : ∃ nC, nC = cl.length := ⟨_, rfl⟩
            have HnC := Lib.hid hnC
            rw [← hnC] at hcl14 ⊢
            clear hnC HCl hmk160
            generalize hg8 : x8.heap.size = g at HG0 HB9 ⊢
            have Hg8 := Lib.hid hg8
            clear hg8
            go_wp2
            go_loopw [29] (fun q wz => ∃ j : Nat, j ≤ nC ∧ q = .int .i64 j ∧ Hid (BlkIs wz g 5 (bytesV (flat5 (wantB (pN L) (cl.take j))))) ∧ Hid (Below g x8 wz)) (fun q _ => nC - (intOf q).toNat)
            case atStart => exact ⟨0, Nat.zero_le _, rfl, HG0.out, HB9.out⟩
            case round =>
              obtain ⟨j, hj, rfl, hG, hBz⟩ := hrel
              rename World => wz
              have hj0 : (0 : Int) ≤ (j : Int) := by omega
              have hBz8 : Hid (Below x8.heap.size x8 wz) := by rw [Hg8.out]; exact hBz.out
              by_cases hjl : j < nC
              · have hjli : (j : Int) < (nC : Int) := by omega
                have hjc : j < cl.length := by rw [← HnC.out]; exact hjl
                obtain ⟨g8, rfl, hg8l, c8c⟩ := nats_at ((Kept.fresh (S := fun _ => False) hBz8.out).row HO8.out (fun _ _ q => q)) hjc
                have hxl := HClt.out _ (show Gr.el cl j ∈ cl by rw [Gr.el_lt hjc]; exact List.getElem_mem _)
                have Htk := Lib.hid (Gr.take_el cl j hjc)
                obtain ⟨x, hx⟩ : ∃ x, x = Gr.el cl j := ⟨_, rfl⟩
                rw [← hx] at c8c hxl Htk
                clear hx
                have hxli : (x : Int) < (L.length : Int) := by omega
                have hx0 : (0 : Int) ≤ (x : Int) := by omega
                obtain ⟨ga, rfl, hga, a0', a1', a2'⟩ := (hAl.out.fresh (HB8.out.trans (hBz8.out.mono HB8.out.size))).pat hxl
                have hpr := hV.out.mark.right x hxl
                have hpb := hP5.out x hxl
                obtain ⟨r1, r2, r3, r4, r5, r6⟩ := Pt.right_out hpr
                have HRt : Hid (∀ k ∈ cl.take j, (pN L k).right = true) := fun k hk => HR.out k (List.mem_of_mem_take hk)
                have Hst : Hid (∀ k, k < (pN L x).s.size → (flat5 (wantF (pN L) (cl.take j) x k)).set ((pN L x).b.toNat * 32 + ((pN L x).o.toNat + k)) (nth (sb (pN L x).s) k) = flat5 (wantF (pN L) (cl.take j) x (k + 1))) := fun k hk => wantF_step HRt.out hpr hk (by omega) (by omega)
                have Hw0 : Hid (wantF (pN L) (cl.take j) x 0 = wantB (pN L) (cl.take j)) := wantF_zero HRt.out hpr
                have Hwa : Hid (wantF (pN L) (cl.take j) x (pN L x).s.size = wantB (pN L) (cl.take (j + 1))) := by unfold Hid; rw [Htk.out]; exact wantF_all
                have Hwl : Hid (∀ k, (flat5 (wantF (pN L) (cl.take j) x k)).length = 160) := fun k => flat5_len fun b _ => wantF_len HRt.out hpr k b
                obtain ⟨bn, hbn⟩ : ∃ bn : Nat, (pN L x).b = (bn : Int) := ⟨(pN L x).b.toNat, by omega⟩
                obtain ⟨on, hon⟩ : ∃ on : Nat, (pN L x).o = (on : Int) := ⟨(pN L x).o.toNat, by omega⟩
                rw [hbn, hon] at Hst
                rw [hbn] at a0' hpb
                rw [hon] at a1' r4 r6
                simp only [Int.toNat_natCast] at Hst
                generalize (pN L x).s = ps at *
                have hbn5 : bn < 5 := by omega
                have hon32 : (on : Int) + (ps.size : Int) ≤ 32 := by omega
                clear hbn hon hpr r1 r2 r3 r5 hpb r4 r6
                go_wp2
                have hgz : g < wz.heap.size := hG.out.lt
                obtain ⟨sz, hsz⟩ : ∃ sz, sz = ps.size := ⟨_, rfl⟩
                have Hsz := Lib.hid hsz
                clear hsz
                have HX0 : Hid ((wz.alloc (.cells #[.int .i64 (bn : Int), .int .i64 (on : Int), .string ps] 32)).heap[wz.heap.size]? = some (.cells #[.int .i64 (bn : Int), .int .i64 (on : Int), .string ps] 32 (0, 0))) := heap_alloc_new wz _
                have HGw : Hid (BlkIs (wz.alloc (.cells #[.int .i64 (bn : Int), .int .i64 (on : Int), .string ps] 32)) g 5 (bytesV (flat5 (wantF (pN L) (cl.take j) x 0)))) := by rw [Hw0.out]; exact (heap_alloc_old wz _ hgz).trans hG.out
                have HBw0 : Hid (Below g x8 (wz.alloc (.cells #[.int .i64 (bn : Int), .int .i64 (on : Int), .string ps] 32))) := hBz.out.alloc (by omega) _
                go_loopw [31] (fun q wv => ∃ k : Nat, k ≤ sz ∧ q = .int .i64 k ∧ Hid (BlkIs wv g 5 (bytesV (flat5 (wantF (pN L) (cl.take j) x k)))) ∧ Hid (wv.heap[wz.heap.size]? = some (.cells #[.int .i64 (bn : Int), .int .i64 (on : Int), .string ps] 32 (0, 0))) ∧ Hid (Below g x8 wv)) (fun q _ => sz - (intOf q).toNat)
                case atStart => exact ⟨0, Nat.zero_le _, rfl, HGw.out, HX0.out, HBw0.out⟩
                case round =>
                  obtain ⟨k, hk, rfl, hGk, hXk, hBk⟩ := hrel
                  rename World => wv
                  have hk0 : (0 : Int) ≤ (k : Int) := by omega
                  have p0 : wv.cell? ⟨wz.heap.size, 0, none⟩ = some (.int .i64 (bn : Int)) := cell_of_row wv _ 0 _ 32 (0, 0) hXk.out
                  have p1 : wv.cell? ⟨wz.heap.size, 1, none⟩ = some (.int .i64 (on : Int)) := cell_of_row wv _ 1 _ 32 (0, 0) hXk.out
                  have p2 : wv.cell? ⟨wz.heap.size, 2, none⟩ = some (.string ps) := cell_of_row wv _ 2 _ 32 (0, 0) hXk.out
                  have hbl : wz.heap.size < wv.heap.size := (Array.getElem?_eq_some_iff.1 hXk.out).1
                  by_cases hkn : k < sz
                  · have hkp : k < ps.size := by rw [← Hsz.out]; exact hkn
                    have hkni : (k : Int) < (ps.size : Int) := by omega
                    have hq160 : bn * 32 + (on + k) < 160 := by omega
                    have hcg : wv.cell? ⟨g, bn * 32 + (on + k), none⟩ = some (.int .u8 (nth (flat5 (wantF (pN L) (cl.take j) x k)) (bn * 32 + (on + k)))) := (hGk.out.cell _).trans (byte_at5 (by rw [Hwl.out]; exact hq160))
                    have hfg := hGk.out.frozen (bn * 32 + (on + k))
                    have hlg := hGk.out.lt
                    have hix : ((bn : Int) * 32 + (on : Int) + (k : Int)).toNat = bn * 32 + (on + k) := by omega
                    have hi0 : (0 : Int) ≤ (bn : Int) * 32 + (on : Int) + (k : Int) := by omega
                    have hi160 : (bn : Int) * 32 + (on : Int) + (k : Int) < 160 := by omega
                    have hSt : Hid (BlkIs (wv.setCell ⟨g, bn * 32 + (on + k), none⟩ (.int .u8 (nth (sb ps) k))) g 5 (bytesV (flat5 (wantF (pN L) (cl.take j) x (k + 1))))) := by
                      have h := hGk.out.set_ (bn * 32 + (on + k)) (.int .u8 (nth (sb ps) k))
                      rw [← Hst.out k hkp]
                      unfold bytesV at h ⊢
                      rw [List.map_set]; exact h
                    generalize nth (flat5 (wantF (pN L) (cl.take j) x k)) (bn * 32 + (on + k)) = old at *
                    have hbyte : (((ps[k]'hkp).toNat : Nat) : Int) = nth (sb ps) k := by
                      unfold sb
                      rw [nth_lt (by rw [List.length_map]; exact hkp), List.getElem_map]
                      rfl
                    go_wp2
                    go_region
                    go_wp2
                    go_roundw
                    case rel =>
                      refine ⟨k + 1, by omega, by go_num, ?_, ?_, ?_⟩
                      · exact hSt.out.drew
                      · exact (heap_setCell_other wv ⟨g, bn * 32 + (on + k), none⟩ wz.heap.size _ (by simp; omega)).trans hXk.out
                      · exact (hBk.out.setCell (p := ⟨g, bn * 32 + (on + k), none⟩) (Nat.le_refl _) _).drew
                    case measure => simp [intOf]; omega
                  · obtain rfl : k = sz := by omega
                    have hkni : ¬ (k : Int) < (ps.size : Int) := by have := Hsz.out; omega
                    have HGe : Hid (BlkIs wv g 5 (bytesV (flat5 (wantB (pN L) (cl.take (j + 1)))))) := by
                      have h := hGk.out
                      rw [Hsz.out, Hwa.out] at h
                      exact h
                    go_wp2
                    go_roundw
                    case rel => exact ⟨j + 1, by omega, by go_num, HGe.out, hBk.out⟩
                    case measure => simp [intOf]; omega
              · obtain rfl : j = nC := by omega
                have hjli : ¬ (j : Int) < (j : Int) := by omega
                have hGe : BlkIs wz g 5 (bytesV img) := by
                  have h := hG.out
                  rw [List.take_of_length_le (Nat.le_of_eq HnC.out.symm), HE.out] at h
                  exact h
                have HGe := Lib.hid hGe
                have HBwz : Hid (Below wr.heap.size wr wz) := HB8.out.trans (hBz8.out.mono HB8.out.size)
                have HO4z := Lib.hid (row_below HO45.out (HB58.out.trans (hBz8.out.mono HB58.out.size)))
                have hgl := hGe.lt
                clear hGe hG
                obtain ⟨g4, hA4, _, _, _⟩ := bytes_at HO4z.out Hi160.out (j := 0) (by omega)
                subst hA4
                go_wp2_with (go_at_call 19; (refine (live_any _).mono ?_); rintro e xl ⟨rfl, hbl⟩; have HBl := Lib.hid hbl; have ht1 := row_text (row_below HO4z.out hbl) Hi160.out; have ht2 := blk_text (BlkIs.below HGe.out hbl hgl) Hi160.out; clear hbl)
                go_ret
                exact ⟨by simp, hB.out.trans ((HBwz.out.trans (HBl.out.mono HBwz.out.size)).mono hB.out.size)⟩)
end Go.Proofs.Ytegacggkdjgdiaa.EngineClosed
