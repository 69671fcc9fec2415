/- TopVersions is true of every patches and byte, and leaves its arguments as they are. Here: the walk of the law's text. -/
import Derived.Test.YtieeibdhaoaeaaaTA
set_option linter.unusedVariables false
set_option linter.unusedSimpArgs false
namespace Go.Proofs.Ytieeibdhaoaeaaa.TopVersions
open Go.RowKit
theorem build_on {P : Program} {ops : Array Oper} {rest : List Oper} {o : Oper} {a : Act} {w : World} {Q : Exit → Act → World → Prop} (hw : Region.wanted o (yielded ops a.tmps) = true) (t : TypeId) (ho : o.op = .build t #[]) (cs : Array Value) (hb : P.built t [] = some cs)
    (h : wpList P ops Q rest (a.put o.dst (.agg cs)) w) : wpList P ops Q (o :: rest) a w :=
  wpList_step fun K hK => by
    rw [if_pos hw]
    exact wp_build_eq t [] ho [] rfl cs hb (hK _ _ h)
set_option maxRecDepth 100000 in
set_option maxHeartbeats 8000000 in
theorem walk (A : Option Addr) (len cap : Nat) (ps : List Pt) (bv : Int) (w : World) (hP : IsPats w A len cap ps) (hb : (Lit.int .u8 bv).wf = true) :
    Calls Try.prog 10 #[.slice A len cap, .int .u8 bv] w fun e w' => e = .returned (.bool true) ∧ Below w.heap.size w w' := by
  obtain ⟨rfl, hcap, hmax, hPt, hok⟩ := hP
  have hbv := bounds_u8 hb
  have hwb : IntKind.i64.wrap bv = bv := by simp [IntKind.wrap, IntKind.bits, IntKind.signed]; omega
  have HQ : Hid (∀ m : Nat, ∃ q : Nat, q ≤ m ∧ bv.tmod ((m : Int) + 1) = (q : Int)) := fun m => by
    have h1 := Int.emod_lt_of_pos bv (show (0 : Int) < (m : Int) + 1 by omega)
    have h2 := Int.emod_nonneg bv (show ((m : Int) + 1) ≠ 0 by omega)
    exact ⟨(bv % ((m : Int) + 1)).toNat, by omega, by rw [Int.tmod_eq_emod_of_nonneg hbv.1]; omega⟩
  have HP : Hid (∀ wr, Below w.heap.size w wr → ∀ k, k < ps.length → ∃ b o, A = some ⟨b, o, none⟩ ∧ wr.cell? ⟨b, o + k * 3, none⟩ = some (.int .i64 (pn ps k).b) ∧ wr.cell? ⟨b, o + k * 3 + 1, none⟩ = some (.int .i64 (pn ps k).o) ∧ wr.cell? ⟨b, o + k * 3 + 2, none⟩ = some (.string (pn ps k).s)) := fun wr hB k hk => by
    obtain ⟨b, o, e, _, hc⟩ := (hPt.below hB) (by omega)
    exact ⟨b, o, e, hc k hk⟩
  have HOk := Lib.hid hok
  have AP : Hid (∀ W x c l p, W.heap[x]? = some (.cells (bytesV l).toArray 5 (0, 0)) → OkS l → p.ok → Calls Try.prog 30 #[.slice (some ⟨x, 0, none⟩) 32 c, p.v] W (AnsO W (allP l [p]))) := fun W x c l p hx hl hp => apply_own _ c l p W (BlkIs.bts hx hl.2 (Array.getElem?_eq_some_iff.1 hx).1) hl.1 hp
  have C1 : Hid (Calls Try.prog 26 #[.int .i64 1] w fun e w' => e = .returned (.pointer (some ⟨w.heap.size + 1, 0, none⟩)) ∧ (∃ F, Code w' (w.heap.size + 1) 1 (fun _ => ⟨noSec, [], false⟩) 0 F ∧ ∀ b, F b → w.heap.size ≤ b) ∧ Below w.heap.size w w') := cnew (m := 1) (by decide) (by decide) w
  have hmk : ∀ W, (Instr.makeSlice 50 (.int .i64 32) (.int .i64 32)).run Try.prog W = .ok (.slice (some ⟨W.heap.size, 0, none⟩) 32 32) (W.alloc (.cells (madeCells #[Value.int .u8 0] 32) 5)) := fun W => run_make_row' (P := Try.prog) 50 5 (.int .u8 0) 1 Try.underlying50 info5 rfl .i64 .i64 32 (by omega) (by omega) W
  rw [made_bytes] at hmk
  obtain ⟨L0, hL0⟩ : ∃ L0, L0 = (bytesV (List.replicate 32 0)).toArray := ⟨_, rfl⟩
  rw [← hL0] at hmk
  have HL0 : Hid (L0 = (bytesV noSec).toArray) := hL0
  obtain ⟨i36, hi36, hz36, hs36, hy36⟩ := info_parts info36b
  clear hL0 hPt hok hcap hmax hb
  go_enter Try.func10, Try.ntmps10
  go_wp2_with fail
  refine C1.out.mono ?_
  rintro e w1 ⟨rfl, ⟨F, hF, hf⟩, hB⟩
  obtain ⟨d, hd⟩ : ∃ d, d = w.heap.size + 1 := ⟨_, rfl⟩
  rw [← hd] at hF ⊢
  have T0 : Hid (TvS w w1 d 0 (.slice none 0 0) [] [] []) := ⟨F, hF, hf, World.ownsRow_nil _ _ _ _, fun b e => (by cases e), fun p hp => (by cases hp), hB⟩
  clear hF hf hB hd
  go_wp2_with fail
  go_loopw [6, 7, 8] (fun v6 v7 i wr => ∃ (k m : Nat) (A6 : Option Addr) (c6 x c7 : Nat) (l : List Int) (Im : List (List Int)), k ≤ ps.length ∧ k ≤ 20 ∧ Im.length = m ∧ m ≤ k ∧ i = .int .i64 k ∧ v6 = .slice A6 m c6 ∧ v7 = .slice (some ⟨x, 0, none⟩) 32 c7 ∧ (∀ y ∈ Im, OkS y) ∧ OkS l ∧ TvS w wr d k (.slice A6 m c6) Im Im [(x, .cells (bytesV l).toArray 5)]) (fun _ _ i _ => ps.length - (intOf i).toNat)
  case atStart =>
    refine ⟨0, 0, none, 0, w1.heap.size, 32, noSec, [], Nat.zero_le _, Nat.zero_le _, rfl, Nat.le_refl _, rfl, rfl, rfl, (fun y hy => by cases hy), ⟨noSec_len, fun x hx => by rw [noSec, List.mem_replicate] at hx; rw [hx.2]; decide⟩, ?_⟩
    rw [← HL0.out]
    exact T0.out.add (below_alloc1 w1 _) (Nat.le_refl _) (heap_alloc_new w1 _)
  case round =>
    obtain ⟨k, m, A6, c6, x, c7, l, Im, hk, hk20, hLm, hmk1, rfl, rfl, rfl, hIm, hl, hS⟩ := hrel
    rename World => wr
    have HS := Lib.hid hS
    have HIm := Lib.hid hIm
    have HLl := Lib.hid hl
    clear hIm hl hS
    by_cases hlt : k < ps.length
    · have hlt' : (k : Int) < (ps.length : Int) := by omega
      have hk0 : (0 : Int) ≤ (k : Int) := by omega
      have hwk : IntKind.i64.wrap ((k : Int) + 1) = (k : Int) + 1 := by simp [IntKind.wrap, IntKind.bits, IntKind.signed]; omega
      by_cases h20 : k < 20
      · have h20' : (k : Int) < 20 := by omega
        obtain ⟨b, o, hAe, p0, p1, p2⟩ := HP.out wr HS.out.below k hlt
        have A1 := Lib.hid (AP.out wr x c7 l (pn ps k) (HS.out.side (p := (x, .cells (bytesV l).toArray 5)) (by simp)) HLl.out (HOk.out k hlt))
        obtain ⟨r, hr2⟩ : ∃ r, r = allP l [pn ps k] := ⟨_, rfl⟩
        rw [← hr2] at A1
        unfold Pt.v at A1
        obtain ⟨pb, hpb⟩ : ∃ y, y = (pn ps k).b := ⟨_, rfl⟩
        obtain ⟨po, hpo⟩ : ∃ y, y = (pn ps k).o := ⟨_, rfl⟩
        obtain ⟨px, hpx⟩ : ∃ y, y = (pn ps k).s := ⟨_, rfl⟩
        rw [← hpb] at p0 A1
        rw [← hpo] at p1 A1
        rw [← hpx] at p2 A1
        subst hAe
        clear hr2 hpb hpo hpx
        cases r with
        | none =>
          go_wp2_with fail
          refine A1.out.mono ?_
          clear p0 p1 p2
          rintro e u1 ⟨hB, h⟩
          have H1 := Lib.hid (TvS.few (HS.out.next hB) (fun p hp => hp) (Nat.le_succ k))
          clear hB
          subst h
          go_wp2_with fail
          go_roundw
          case rel => exact ⟨k + 1, m, A6, c6, x, c7, l, Im, by omega, by omega, hLm, by omega, rfl, rfl, rfl, HIm.out, HLl.out, H1.out⟩
          case measure => simp [intOf]; omega
        | some m' =>
          go_wp2_with fail
          refine A1.out.mono ?_
          clear p0 p1 p2
          rintro e u1 ⟨hB, x', c', rfl, hx', hb', ha', hl'⟩
          have H1 := Lib.hid (TvS.few (HS.out.add hB hx' hb') (Y' := [(x', .cells (bytesV m').toArray 5)]) (fun p hp => by simp at hp; simp [hp]) (Nat.le_refl k))
          have HOm : Hid (OkS m') := ⟨hl', ha'⟩
          have hbx : u1.heap[x']? = some (.cells (bytesV m').toArray 5 (0, 0)) := hb'
          have SRC : Hid (∀ ob j v, (bytesV m')[j]? = some v → (u1.alloc ob).cell? ((⟨x', 0, none⟩ : Addr).add j) = some v) := fun ob j v hj => by
            rw [add_plain', Nat.zero_add]
            have hlt2 := (Array.getElem?_eq_some_iff.1 hbx).1
            rw [World.cell?_of_block (a := ⟨x', j, none⟩) ((below_alloc1 u1 ob).block x' hlt2), cell_of_row u1 x' j _ 5 (0, 0) hbx]
            simpa using hj
          have HUl : Hid ((bytesV m').length = 32) := by unfold Hid; rw [length_bytesV, hl']
          have HU1 := Lib.hid (bytesV_one m')
          have hsz : Hid ((Try.prog.info? 36).map (·.size) = some (bytesV m').toArray.size) := by unfold Hid; rw [List.size_toArray, length_bytesV, hl']; exact size36
          have FU : Hid (Instr.fill (fun i => some (i * 32, 32)) ((Array.range 32).map ((bytesV (List.replicate 32 0)).toArray[· % 32]!)) [(0, .agg (bytesV m').toArray)] = some (bytesV m').toArray) := fill36 m' hl'
          have WR : Hid (∀ W Y, TvS w W d k (.slice A6 m c6) Im Im Y → Calls Try.prog 17 #[.pointer (some ⟨d, 0, none⟩), .int .i64 0, .agg (bytesV m').toArray] W fun e w' => e = .returned (.int .i64 0) ∧ TvS w w' d (k + 1) (.slice A6 m c6) (Im ++ [m']) Im Y) := fun W Y H => H.write (by omega) ⟨hl', ha'⟩
          have APD : Hid (∀ W W2 v' Y, TvS w W d (k + 1) (.slice A6 m c6) (Im ++ [m']) Im Y → W2.ownsRow w.heap.size 36 32 v' (m + 1) (secsV Im ++ bytesV m') → W.grownBy W2 (Value.slice A6 m c6).ownBlock → (v'.ownBlock = (Value.slice A6 m c6).ownBlock ∨ v'.ownBlock = some W.heap.size) → TvS w W2 d (k + 1) v' (Im ++ [m']) (Im ++ [m']) Y) := fun W W2 v' Y H h1 h2 h3 => H.append (by rw [hLm]; exact h1) h2 h3
          have ROW : Hid (∀ W Y, TvS w W d (k + 1) (.slice A6 m c6) (Im ++ [m']) Im Y → W.ownsRow w.heap.size 36 32 (.slice A6 m c6) m (secsV Im)) := fun W Y H => by have := H.row; rw [hLm] at this; exact this
          obtain ⟨UL, hUL⟩ : ∃ UL, UL = bytesV m' := ⟨_, rfl⟩
          obtain ⟨U, hU⟩ : ∃ U, U = (bytesV m').toArray := ⟨_, rfl⟩
          have HUU : Hid (UL.toArray = U) := by rw [hUL, hU]; rfl
          have HUT : Hid (U.toList = UL) := by rw [hUL, hU]; rfl
          rw [← hU] at hsz FU WR
          rw [← hUL] at SRC HUl HU1 APD
          have HH1 := Lib.hid hU
          clear hB hx' hb' ha' hl' hbx hUL hU
          go_wp2_with (first
            | (refine wpList_copy_wide rfl (.tmp 42) (.tmp 43) 50 50 rfl 5 1 Try.underlying50 size5 u1.heap.size 0 32 32 ⟨x', 0, none⟩ 32 c' rfl rfl _ 36 (heap_alloc_new u1 _) UL (by rw [HUl.out]; rfl) (SRC.out _) (by rw [HUl.out]; exact Nat.le_refl 32) HU1.out U (by rw [splice_whole _ _ (by rw [HUl.out]; rfl)]; exact HUU.out) ?_
               generalize hW : World.setRow (u1.alloc (Obj.cells _ 36)) _ U = u2
               have hB2 : Below u1.heap.size u1 u2 := by rw [← hW]; exact below_setRow (below_alloc1 u1 _) (Nat.le_refl _) _
               have b2 : u2.heap[u1.heap.size]? = some (.cells U 36 (0, 0)) := by rw [← hW]; exact setRow_heap _ _ _ _ _ _ (heap_alloc_new u1 _)
               have H2 := Lib.hid (H1.out.add hB2 (Nat.le_refl _) b2)
               have b2h := Lib.hid b2
               clear hW hB2 b2)
            | (refine wpList_load_row rfl 36 (.tmp 11) rfl u1.heap.size rfl 36 U (0, 0) _ b2h.out Try.underlying36 rfl hsz.out ?_))
          refine (WR.out _ _ H2.out).mono ?_
          rintro e u3 ⟨rfl, h⟩
          have H3 := Lib.hid h
          have b3h : Hid (u3.heap[u1.heap.size]? = some (.cells U 36 (0, 0))) := TvS.side h (p := (u1.heap.size, .cells U 36)) (by simp)
          clear h
          go_wp2_with (first
            | (refine wpList_load_row rfl 36 (.tmp 11) rfl u1.heap.size rfl 36 U (0, 0) _ b3h.out Try.underlying36 rfl hsz.out ?_)
            | (refine wpList_sliceE rfl (.tmp 50) 51 36 Try.underlying51 rfl U rfl i36 hi36 hz36 hs36 FU.out ?_
               obtain ⟨sb, hsb⟩ : ∃ x, x = u3.heap.size := ⟨_, rfl⟩
               obtain ⟨u4, hX⟩ : ∃ x, x = u3.alloc (.cells U 36) := ⟨_, rfl⟩
               have H4 := Lib.hid (TvS.next (w2 := u4) H3.out (by rw [hX]; exact below_alloc1 u3 _))
               have SS : Hid (∀ j u, UL[j]? = some u → u4.cell? ((⟨sb, 0, none⟩ : Addr).add j) = some u) := by rw [hX, hsb, ← HUT.out]; exact fun j u hu => cells_new u3 U.toList 36 j u hu
               have E4 := Lib.hid (TvS.below H4.out).size
               rw [← hsb, ← hX]
               clear hX hsb)
            | (refine wpList_append_src rfl (.tmp 49) (.tmp 51) 51 rfl w.heap.size 36 i36 _ 32 32 Try.underlying51 hi36 hz36 hs36 hy36 (by decide) (by decide) (.slice A6 m c6) m (secsV Im) rfl (ROW.out _ _ H4.out) (some ⟨sb, 0, none⟩) 1 1 UL rfl (by rw [HUl.out]) (fun ad e => by cases e; exact SS.out) (fun e => by cases e) HU1.out (by unfold maxLen; omega) (by omega) E4.out (m + 1) rfl ?_
               intro B1 d1 u5 ho hg hor
               have H5 := Lib.hid (APD.out _ _ _ _ H4.out ho hg hor)
               clear ho hg hor))
          go_roundw
          case rel => exact ⟨k + 1, m + 1, B1, d1, x', c', m', Im ++ [m'], by omega, by omega, by rw [List.length_append, hLm]; rfl, by omega, rfl, rfl, rfl, (fun y hy => by
            rcases List.mem_append.1 hy with h | h
            · exact HIm.out y h
            · obtain rfl : y = m' := by simpa using h
              exact HOm.out), HOm.out, TvS.few H5.out (fun p hp => by simp at hp; simp [hp]) (Nat.le_refl _)⟩
          case measure => simp [intOf]; omega
      · have h20' : ¬ (k : Int) < 20 := by omega
        have hm20 : m ≤ 20 := by omega
        obtain ⟨q, hq, hqe⟩ := HQ.out m
        have hwm : IntKind.i64.wrap ((m : Int) + 1) = (m : Int) + 1 := by simp [IntKind.wrap, IntKind.bits, IntKind.signed]; omega
        have hne0 : ¬ ((m : Int) + 1 = 0) := by omega
        have hne1 : (((m : Int) + 1) == 0) = false := by rw [beq_eq_false_iff_ne]; exact hne0
        have hqw : IntKind.i64.wrap (q : Int) = (q : Int) := by simp [IntKind.wrap, IntKind.bits, IntKind.signed]; omega
        have HCR : Hid (∀ W pb, TvS w W d k (.slice A6 m c6) Im Im [(pb, Obj.cells #[.int .i64 (q : Int)] 3)] → Calls Try.prog 19 #[.pointer (some ⟨d, 0, none⟩), .slice (some ⟨pb, 0, none⟩) 1 1] W fun e w' => e = .returned (.int .i64 0) ∧ TvE w w' d k (.slice A6 m c6) Im (leftT Im q)) := fun W pb H => H.crash (by omega) (by omega) (by omega) (by simp)
        have HRE : Hid (∀ W, TvE w W d k (.slice A6 m c6) Im (leftT Im q) → Calls Try.prog 20 #[.pointer (some ⟨d, 0, none⟩), .int .i64 0] W fun e w' => e = .returned (.tuple #[secV (leftT Im q), .int .i64 0]) ∧ w'.ownsRow w.heap.size 36 32 (.slice A6 m c6) Im.length (secsV Im) ∧ Below w.heap.size w w') := fun W H => H.read (by omega)
        have HOK : OkS (leftT Im q) := by
          unfold leftT
          split
          · exact ⟨noSec_len, fun x hx => by rw [noSec, List.mem_replicate] at hx; rw [hx.2]; decide⟩
          · rw [List.getD_eq_getElem?_getD, List.getElem?_eq_getElem (by omega)]
            exact HIm.out _ (List.getElem_mem _)
        have hsz : Hid ((Try.prog.info? 36).map (·.size) = some (bytesV (leftT Im q)).toArray.size) := by unfold Hid; rw [List.size_toArray, length_bytesV, HOK.1]; exact size36
        have h32 : Hid (32 = (bytesV (leftT Im q)).toArray.size) := by unfold Hid; rw [List.size_toArray, length_bytesV, HOK.1]
        have hone : Hid ((bytesV (leftT Im q)).toArray.all (·.oneCell') = true) := all_oneCell_toArray (bytesV_one _)
        have HS0 := Lib.hid (TvS.few HS.out (Y' := []) (fun p hp => by cases hp) (Nat.le_refl _))
        have HQ0 : Hid (q = 0 → (bytesV (leftT Im q)).toArray = (bytesV noSec).toArray) := fun e => by unfold leftT; rw [if_pos e]
        have HQ1 : Hid (∀ (q1 : Nat) (W : World) (rb : Nat), q = q1 + 1 → W.ownsRow w.heap.size 36 32 (.slice (some ⟨rb, 0, none⟩) m c6) Im.length (secsV Im) → W.rangeAt rb (q1 * 32) (bytesV (leftT Im q))) := fun q1 W rb e hr j u hj => by
          have hj32 : j < 32 := by
            have := (List.getElem?_eq_some_iff.1 hj).1
            rw [length_bytesV, HOK.1] at this
            exact this
          have hlt1 : q1 < Im.length := by omega
          have hle : leftT Im q = Im[q1] := by
            unfold leftT
            rw [if_neg (by omega), e, Nat.add_sub_cancel, List.getD_eq_getElem?_getD, List.getElem?_eq_getElem hlt1]; rfl
          rw [hLm] at hr
          have h1 := (row_src hr).1 _ rfl (q1 * 32 + j) u (by rw [secsV_at (fun x hx => (HIm.out x hx).1) hlt1 hj32, ← hle]; exact hj)
          rw [add_plain', Nat.zero_add] at h1
          exact h1
        obtain ⟨UL, hUL⟩ : ∃ UL, UL = bytesV (leftT Im q) := ⟨_, rfl⟩
        obtain ⟨U, hU⟩ : ∃ U, U = (bytesV (leftT Im q)).toArray := ⟨_, rfl⟩
        have EQ : Hid (∀ (W : World) (o : Oper) (ev : Operand → Value), o.op = .binOp .eql 36 (.tmp 88) (.tmp 93) 36 → ev (.tmp 88) = .agg U → ev (.tmp 93) = .agg UL.toArray → (execOp ev o).run Try.prog W = .ok (.value (.bool true)) W) := fun W o ev ho h1 h2 => by
          rw [hU] at h1
          rw [hUL] at h2
          have := exec_eq (w := W) 36 36 _ _ ho Try.underlying36 _ _ h1 h2 HOK.1 HOK.1 (by kernel_rfl)
          rw [this]; simp
        have hszL : Hid ((Try.prog.info? 36).map (·.size) = some UL.length) := by unfold Hid; rw [hUL, length_bytesV, HOK.1]; exact size36
        have EU : Hid (∀ W, (Op.equalIn 10000 36 (.agg U) (.agg U)).run Try.prog W = .ok true W) := fun W => by
          have := eqAny 36 Try.underlying36 _ _ HOK.1 HOK.1 W
          rw [hU]; simpa using this
        have EU5 : Hid (∀ W, (Op.equalIn 10000 35 (.agg U) (.agg U)).run Try.prog W = .ok true W) := fun W => by
          have := eqAny 35 Try.underlying35 _ _ HOK.1 HOK.1 W
          rw [hU]; simpa using this
        unfold secV at HRE
        rw [← hU] at hsz h32 hone HQ0 HRE
        rw [← hUL] at HQ1
        have HLm := Lib.hid hLm
        clear hUL hU HOK HS HQ hLm
        go_wp2_with fail
        have HB0 : Hid (∀ o W, W = wr.alloc o → Below wr.heap.size wr W ∧ W.heap[wr.heap.size]? = some o) := fun o W e => by rw [e]; exact ⟨below_alloc1 wr o, heap_alloc_new wr o⟩
        refine (HCR.out _ wr.heap.size (TvS.add HS0.out (below_alloc1 wr _) (Nat.le_refl _) (heap_alloc_new wr _))).mono ?_
        rintro e v1 ⟨rfl, h⟩
        have V1 := Lib.hid h
        clear h
        go_wp2_with fail
        refine (HRE.out _ V1.out).mono ?_
        rintro e t1 ⟨rfl, hrow, hB⟩
        have R1 := Lib.hid hrow
        have B1 := Lib.hid hB
        clear hrow hB
        by_cases hq0 : q = 0
        · have hbu : Hid (Try.prog.built 36 [] = some U) := by rw [HQ0.out hq0]; exact built36
          have hqi : ((q : Int) = 0) := by omega
          subst hq0
          go_wp2_with (first
            | (refine wpList_store_row rfl 36 (.tmp 14) (.tmp 66) rfl t1.heap.size U rfl rfl 36 _ (heap_alloc_new t1 _) hsz.out h32.out hone.out ?_
               generalize hW : World.setRow (t1.alloc (Obj.cells _ 36)) _ U = t2
               have b2 : Hid (t2.heap[t1.heap.size]? = some (.cells U 36 (0, 0))) := by rw [← hW]; exact setRow_heap _ _ _ _ _ _ (heap_alloc_new t1 _)
               have B2 : Hid (Below w.heap.size w t2) := by rw [← hW]; exact B1.out.trans ((below_setRow (below_alloc1 t1 _) (Nat.le_refl _) _).mono B1.out.size)
               have eu := EU.out t2
               have ev := EU5.out t2
               clear hW)
            | (refine load_row_on (by first | rfl | simp [Region.wanted, yielded]) 36 (.tmp 14) rfl t1.heap.size rfl 36 U (0, 0) _ b2.out Try.underlying36 rfl hsz.out ?_)
            | (refine build_on (by first | rfl | simp [Region.wanted, yielded]) 36 rfl U hbu.out ?_))
          go_ret
          exact ⟨rfl, B2.out⟩
        · obtain ⟨q1, rfl⟩ : ∃ q1, q = q1 + 1 := ⟨q - 1, by omega⟩
          have hqn : ¬ (((q1 + 1 : Nat) : Int) = 0) := by omega
          have hqb : ((((q1 + 1 : Nat) : Int)) == 0) = false := by rw [beq_eq_false_iff_ne]; exact hqn
          have hqs : IntKind.i64.wrap (((q1 + 1 : Nat) : Int) - 1) = (q1 : Int) := by simp [IntKind.wrap, IntKind.bits, IntKind.signed]; omega
          have hqs2 : IntKind.i64.wrap (q1 : Int) = (q1 : Int) := by simp [IntKind.wrap, IntKind.bits, IntKind.signed]; omega
          have hq10 : (0 : Int) ≤ (q1 : Int) := by omega
          have hq1m : (q1 : Int) < (m : Int) := by omega
          obtain ⟨rb, rfl⟩ : ∃ rb, A6 = some ⟨rb, 0, none⟩ := by
            rcases R1.out.2 with ⟨e, h0⟩ | ⟨g, cap, cur, e, _⟩
            · have := HLm.out; omega
            · obtain ⟨e, _, _⟩ := Value.slice.inj e
              exact ⟨g, e⟩
          obtain ⟨Q, hQ⟩ : ∃ Q, Q = ((q1 + 1 : Nat) : Int) := ⟨_, rfl⟩
          go_wp2_with (refine wpList_store_row rfl 36 (.tmp 14) (.tmp 66) rfl t1.heap.size U rfl rfl 36 _ (heap_alloc_new t1 _) hsz.out h32.out hone.out ?_
                       generalize hW : World.setRow (t1.alloc (Obj.cells _ 36)) _ U = t2
                       have hB2 : Below t1.heap.size t1 t2 := by rw [← hW]; exact below_setRow (below_alloc1 t1 _) (Nat.le_refl _) _
                       have b2 : t2.heap[t1.heap.size]? = some (.cells U 36 (0, 0)) := by rw [← hW]; exact setRow_heap _ _ _ _ _ _ (heap_alloc_new t1 _)
                       have B2 := Lib.hid (B1.out.trans (hB2.mono B1.out.size))
                       have XS : Hid (t2.drew.heap[t1.heap.size]? = some (.cells U 36 (0, 0)) ∧ t2.drew.rangeAt rb (q1 * 32) UL) := ⟨b2, HQ1.out q1 t2.drew rb rfl (row_fresh (row_fresh R1.out hB2) (Below.refl _ t2).drew)⟩
                       clear hW hB2 b2)
          refine wp_region_held_drew (S := (fun W => W.heap[t1.heap.size]? = some (.cells U 36 (0, 0)) ∧ W.rangeAt rb (q1 * 32) UL)) (by kernel_rfl) (XS.out) (fun hHeld => ?_)
          refine takeH (i := 0) (some 81) (v := ?_) rfl rfl (by kernel_rfl) (by kernel_rfl) (by kernel_rfl) (fun _ _ _ h => h) (by rfl) ?_ (by assumption) ?_
          rotate_left
          · (intro w hSw; (try dsimp only at hSw); obtain ⟨hS1, hS2⟩ := hSw; go_simp; try with_reducible rfl)
          simp only [Act.put, List.setIfInBounds_toArray, List.set_cons_zero, List.set_cons_succ]
          refine takeH (i := 1) (some 82) (v := ?_) rfl rfl (by kernel_rfl) (by kernel_rfl) (by kernel_rfl) (fun _ _ _ h => h) (by rfl) ?_ (by assumption) ?_
          rotate_left
          · (intro w hSw; (try dsimp only at hSw); obtain ⟨hS1, hS2⟩ := hSw; go_simp; try with_reducible rfl)
          simp only [Act.put, List.setIfInBounds_toArray, List.set_cons_zero, List.set_cons_succ]
          refine takeH (i := 2) (some 83) (v := ?_) rfl rfl (by kernel_rfl) (by kernel_rfl) (by kernel_rfl) (fun _ _ _ h => h) (by rfl) ?_ (by assumption) ?_
          rotate_left
          · (intro w hSw; (try dsimp only at hSw); obtain ⟨hS1, hS2⟩ := hSw; go_simp; try with_reducible rfl)
          simp only [Act.put, List.setIfInBounds_toArray, List.set_cons_zero, List.set_cons_succ]
          refine takeH (i := 3) (some 84) (v := ?_) rfl rfl (by kernel_rfl) (by kernel_rfl) (by kernel_rfl) (fun _ _ _ h => h) (by rfl) ?_ (by assumption) ?_
          rotate_left
          · (intro w hSw; (try dsimp only at hSw); obtain ⟨hS1, hS2⟩ := hSw; go_simp; try with_reducible rfl)
          simp only [Act.put, List.setIfInBounds_toArray, List.set_cons_zero, List.set_cons_succ]
          refine takeH (i := 4) (some 85) (v := ?_) rfl rfl (by kernel_rfl) (by kernel_rfl) (by kernel_rfl) (fun _ _ _ h => h) (by rfl) ?_ (by assumption) ?_
          rotate_left
          · (intro w hSw; (try dsimp only at hSw); obtain ⟨hS1, hS2⟩ := hSw; go_simp; try with_reducible rfl)
          simp only [Act.put, List.setIfInBounds_toArray, List.set_cons_zero, List.set_cons_succ]
          refine takeH (i := 5) (some 86) (v := ?_) rfl rfl (by kernel_rfl) (by kernel_rfl) (by kernel_rfl) (fun _ _ _ h => h) (by rfl) ?_ (by assumption) ?_
          rotate_left
          · (intro w hSw; (try dsimp only at hSw); obtain ⟨hS1, hS2⟩ := hSw; go_simp; try with_reducible rfl)
          simp only [Act.put, List.setIfInBounds_toArray, List.set_cons_zero, List.set_cons_succ]
          refine takeH (i := 6) (some 87) (v := ?_) rfl rfl (by kernel_rfl) (by kernel_rfl) (by kernel_rfl) (fun _ _ _ h => h) (by rfl) ?_ (by assumption) ?_
          rotate_left
          · (intro w hSw; (try dsimp only at hSw); obtain ⟨hS1, hS2⟩ := hSw; go_simp; try with_reducible rfl)
          simp only [Act.put, List.setIfInBounds_toArray, List.set_cons_zero, List.set_cons_succ]
          refine takeH (i := 7) (some 88) (v := ?_) rfl rfl (by kernel_rfl) (by kernel_rfl) (by kernel_rfl) (fun _ _ _ h => h) (by rfl) ?_ (by assumption) ?_
          rotate_left
          · (intro w hSw; (try dsimp only at hSw); obtain ⟨hS1, hS2⟩ := hSw; (refine exec_row 36 (.tmp 14) ?_ _ ?_ 36 U (0, 0) _ hS1 Try.underlying36 rfl hsz.out) <;> rfl)
          simp only [Act.put, List.setIfInBounds_toArray, List.set_cons_zero, List.set_cons_succ]
          refine takeH (i := 8) (some 89) (v := ?_) rfl rfl (by kernel_rfl) (by kernel_rfl) (by kernel_rfl) (fun _ _ _ h => h) (by rfl) ?_ (by assumption) ?_
          rotate_left
          · (intro w hSw; (try dsimp only at hSw); obtain ⟨hS1, hS2⟩ := hSw; go_simp; try with_reducible rfl)
          simp only [Act.put, List.setIfInBounds_toArray, List.set_cons_zero, List.set_cons_succ]
          refine takeH (i := 9) (some 90) (v := ?_) rfl rfl (by kernel_rfl) (by kernel_rfl) (by kernel_rfl) (fun _ _ _ h => h) (by rfl) ?_ (by assumption) ?_
          rotate_left
          · (intro w hSw; (try dsimp only at hSw); obtain ⟨hS1, hS2⟩ := hSw; go_simp; try with_reducible rfl)
          simp only [Act.put, List.setIfInBounds_toArray, List.set_cons_zero, List.set_cons_succ]
          refine takeH (i := 10) (some 91) (v := ?_) rfl rfl (by kernel_rfl) (by kernel_rfl) (by kernel_rfl) (fun _ _ _ h => h) (by rfl) ?_ (by assumption) ?_
          rotate_left
          · (intro w hSw; (try dsimp only at hSw); obtain ⟨hS1, hS2⟩ := hSw; go_simp; try with_reducible rfl)
          simp only [Act.put, List.setIfInBounds_toArray, List.set_cons_zero, List.set_cons_succ]
          refine takeH (i := 11) (some 92) (v := ?_) rfl rfl (by kernel_rfl) (by kernel_rfl) (by kernel_rfl) (fun _ _ _ h => h) (by rfl) ?_ (by assumption) ?_
          rotate_left
          · (intro w hSw; (try dsimp only at hSw); obtain ⟨hS1, hS2⟩ := hSw; go_simp; try with_reducible rfl)
          simp only [Act.put, List.setIfInBounds_toArray, List.set_cons_zero, List.set_cons_succ]
          refine takeH (i := 12) (some 93) (v := ?_) rfl rfl (by kernel_rfl) (by kernel_rfl) (by kernel_rfl) (fun _ _ _ h => h) (by rfl) ?_ (by assumption) ?_
          rotate_left
          · (intro w hSw; (try dsimp only at hSw); obtain ⟨hS1, hS2⟩ := hSw; (refine exec_mid 36 (.tmp 92) ?_ rb (q1 * 32) ?_ UL _ hS2 Try.underlying36 rfl hszL.out) <;> rfl)
          simp only [Act.put, List.setIfInBounds_toArray, List.set_cons_zero, List.set_cons_succ]
          refine takeH (i := 13) (some 94) (v := ?_) rfl rfl (by kernel_rfl) (by kernel_rfl) (by kernel_rfl) (fun _ _ _ h => h) (by rfl) ?_ (by assumption) ?_
          rotate_left
          · (intro w hSw; (try dsimp only at hSw); obtain ⟨hS1, hS2⟩ := hSw; (refine EQ.out _ _ _ ?_ ?_ ?_) <;> rfl)
          simp only [Act.put, List.setIfInBounds_toArray, List.set_cons_zero, List.set_cons_succ]
          refine takeH (i := 14) (some 95) (v := ?_) rfl rfl (by kernel_rfl) (by kernel_rfl) (by kernel_rfl) (fun _ _ _ h => h) (by rfl) ?_ (by assumption) ?_
          rotate_left
          · (intro w hSw; (try dsimp only at hSw); obtain ⟨hS1, hS2⟩ := hSw; go_simp; try with_reducible rfl)
          simp only [Act.put, List.setIfInBounds_toArray, List.set_cons_zero, List.set_cons_succ]
          refine takeH (i := 15) (some 4) (v := ?_) rfl rfl (by kernel_rfl) (by kernel_rfl) (by kernel_rfl) (fun _ _ _ h => h) (by rfl) ?_ (by assumption) ?_
          rotate_left
          · (intro w hSw; (try dsimp only at hSw); obtain ⟨hS1, hS2⟩ := hSw; go_simp; try with_reducible rfl)
          simp only [Act.put, List.setIfInBounds_toArray, List.set_cons_zero, List.set_cons_succ]
          refine wpAnyH_done (by kernel_rfl) ?_ _
          go_wp2
          go_ret
          exact ⟨rfl, B2.out.drew⟩
    · have hlt' : ¬ (k : Int) < (ps.length : Int) := by omega
      have hm20 : m ≤ 20 := by omega
      obtain ⟨q, hq, hqe⟩ := HQ.out m
      have hwm : IntKind.i64.wrap ((m : Int) + 1) = (m : Int) + 1 := by simp [IntKind.wrap, IntKind.bits, IntKind.signed]; omega
      have hne0 : ¬ ((m : Int) + 1 = 0) := by omega
      have hne1 : (((m : Int) + 1) == 0) = false := by rw [beq_eq_false_iff_ne]; exact hne0
      have hqw : IntKind.i64.wrap (q : Int) = (q : Int) := by simp [IntKind.wrap, IntKind.bits, IntKind.signed]; omega
      have HCR : Hid (∀ W pb, TvS w W d k (.slice A6 m c6) Im Im [(pb, Obj.cells #[.int .i64 (q : Int)] 3)] → Calls Try.prog 19 #[.pointer (some ⟨d, 0, none⟩), .slice (some ⟨pb, 0, none⟩) 1 1] W fun e w' => e = .returned (.int .i64 0) ∧ TvE w w' d k (.slice A6 m c6) Im (leftT Im q)) := fun W pb H => H.crash (by omega) (by omega) (by omega) (by simp)
      have HRE : Hid (∀ W, TvE w W d k (.slice A6 m c6) Im (leftT Im q) → Calls Try.prog 20 #[.pointer (some ⟨d, 0, none⟩), .int .i64 0] W fun e w' => e = .returned (.tuple #[secV (leftT Im q), .int .i64 0]) ∧ w'.ownsRow w.heap.size 36 32 (.slice A6 m c6) Im.length (secsV Im) ∧ Below w.heap.size w w') := fun W H => H.read (by omega)
      have HOK : OkS (leftT Im q) := by
        unfold leftT
        split
        · exact ⟨noSec_len, fun x hx => by rw [noSec, List.mem_replicate] at hx; rw [hx.2]; decide⟩
        · rw [List.getD_eq_getElem?_getD, List.getElem?_eq_getElem (by omega)]
          exact HIm.out _ (List.getElem_mem _)
      have hsz : Hid ((Try.prog.info? 36).map (·.size) = some (bytesV (leftT Im q)).toArray.size) := by unfold Hid; rw [List.size_toArray, length_bytesV, HOK.1]; exact size36
      have h32 : Hid (32 = (bytesV (leftT Im q)).toArray.size) := by unfold Hid; rw [List.size_toArray, length_bytesV, HOK.1]
      have hone : Hid ((bytesV (leftT Im q)).toArray.all (·.oneCell') = true) := all_oneCell_toArray (bytesV_one _)
      have HS0 := Lib.hid (TvS.few HS.out (Y' := []) (fun p hp => by cases hp) (Nat.le_refl _))
      have HQ0 : Hid (q = 0 → (bytesV (leftT Im q)).toArray = (bytesV noSec).toArray) := fun e => by unfold leftT; rw [if_pos e]
      have HQ1 : Hid (∀ (q1 : Nat) (W : World) (rb : Nat), q = q1 + 1 → W.ownsRow w.heap.size 36 32 (.slice (some ⟨rb, 0, none⟩) m c6) Im.length (secsV Im) → W.rangeAt rb (q1 * 32) (bytesV (leftT Im q))) := fun q1 W rb e hr j u hj => by
        have hj32 : j < 32 := by
          have := (List.getElem?_eq_some_iff.1 hj).1
          rw [length_bytesV, HOK.1] at this
          exact this
        have hlt1 : q1 < Im.length := by omega
        have hle : leftT Im q = Im[q1] := by
          unfold leftT
          rw [if_neg (by omega), e, Nat.add_sub_cancel, List.getD_eq_getElem?_getD, List.getElem?_eq_getElem hlt1]; rfl
        rw [hLm] at hr
        have h1 := (row_src hr).1 _ rfl (q1 * 32 + j) u (by rw [secsV_at (fun x hx => (HIm.out x hx).1) hlt1 hj32, ← hle]; exact hj)
        rw [add_plain', Nat.zero_add] at h1
        exact h1
      obtain ⟨UL, hUL⟩ : ∃ UL, UL = bytesV (leftT Im q) := ⟨_, rfl⟩
      obtain ⟨U, hU⟩ : ∃ U, U = (bytesV (leftT Im q)).toArray := ⟨_, rfl⟩
      have EQ : Hid (∀ (W : World) (o : Oper) (ev : Operand → Value), o.op = .binOp .eql 36 (.tmp 88) (.tmp 93) 36 → ev (.tmp 88) = .agg U → ev (.tmp 93) = .agg UL.toArray → (execOp ev o).run Try.prog W = .ok (.value (.bool true)) W) := fun W o ev ho h1 h2 => by
        rw [hU] at h1
        rw [hUL] at h2
        have := exec_eq (w := W) 36 36 _ _ ho Try.underlying36 _ _ h1 h2 HOK.1 HOK.1 (by kernel_rfl)
        rw [this]; simp
      have hszL : Hid ((Try.prog.info? 36).map (·.size) = some UL.length) := by unfold Hid; rw [hUL, length_bytesV, HOK.1]; exact size36
      have EU : Hid (∀ W, (Op.equalIn 10000 36 (.agg U) (.agg U)).run Try.prog W = .ok true W) := fun W => by
        have := eqAny 36 Try.underlying36 _ _ HOK.1 HOK.1 W
        rw [hU]; simpa using this
      have EU5 : Hid (∀ W, (Op.equalIn 10000 35 (.agg U) (.agg U)).run Try.prog W = .ok true W) := fun W => by
        have := eqAny 35 Try.underlying35 _ _ HOK.1 HOK.1 W
        rw [hU]; simpa using this
      unfold secV at HRE
      rw [← hU] at hsz h32 hone HQ0 HRE
      rw [← hUL] at HQ1
      have HLm := Lib.hid hLm
      clear hUL hU HOK HS HQ hLm
      go_wp2_with fail
      have HB0 : Hid (∀ o W, W = wr.alloc o → Below wr.heap.size wr W ∧ W.heap[wr.heap.size]? = some o) := fun o W e => by rw [e]; exact ⟨below_alloc1 wr o, heap_alloc_new wr o⟩
      refine (HCR.out _ wr.heap.size (TvS.add HS0.out (below_alloc1 wr _) (Nat.le_refl _) (heap_alloc_new wr _))).mono ?_
      rintro e v1 ⟨rfl, h⟩
      have V1 := Lib.hid h
      clear h
      go_wp2_with fail
      refine (HRE.out _ V1.out).mono ?_
      rintro e t1 ⟨rfl, hrow, hB⟩
      have R1 := Lib.hid hrow
      have B1 := Lib.hid hB
      clear hrow hB
      by_cases hq0 : q = 0
      · have hbu : Hid (Try.prog.built 36 [] = some U) := by rw [HQ0.out hq0]; exact built36
        have hqi : ((q : Int) = 0) := by omega
        subst hq0
        go_wp2_with (first
          | (refine wpList_store_row rfl 36 (.tmp 14) (.tmp 66) rfl t1.heap.size U rfl rfl 36 _ (heap_alloc_new t1 _) hsz.out h32.out hone.out ?_
             generalize hW : World.setRow (t1.alloc (Obj.cells _ 36)) _ U = t2
             have b2 : Hid (t2.heap[t1.heap.size]? = some (.cells U 36 (0, 0))) := by rw [← hW]; exact setRow_heap _ _ _ _ _ _ (heap_alloc_new t1 _)
             have B2 : Hid (Below w.heap.size w t2) := by rw [← hW]; exact B1.out.trans ((below_setRow (below_alloc1 t1 _) (Nat.le_refl _) _).mono B1.out.size)
             have eu := EU.out t2
             have ev := EU5.out t2
             clear hW)
          | (refine load_row_on (by first | rfl | simp [Region.wanted, yielded]) 36 (.tmp 14) rfl t1.heap.size rfl 36 U (0, 0) _ b2.out Try.underlying36 rfl hsz.out ?_)
          | (refine build_on (by first | rfl | simp [Region.wanted, yielded]) 36 rfl U hbu.out ?_))
        go_ret
        exact ⟨rfl, B2.out⟩
      · obtain ⟨q1, rfl⟩ : ∃ q1, q = q1 + 1 := ⟨q - 1, by omega⟩
        have hqn : ¬ (((q1 + 1 : Nat) : Int) = 0) := by omega
        have hqb : ((((q1 + 1 : Nat) : Int)) == 0) = false := by rw [beq_eq_false_iff_ne]; exact hqn
        have hqs : IntKind.i64.wrap (((q1 + 1 : Nat) : Int) - 1) = (q1 : Int) := by simp [IntKind.wrap, IntKind.bits, IntKind.signed]; omega
        have hqs2 : IntKind.i64.wrap (q1 : Int) = (q1 : Int) := by simp [IntKind.wrap, IntKind.bits, IntKind.signed]; omega
        have hq10 : (0 : Int) ≤ (q1 : Int) := by omega
        have hq1m : (q1 : Int) < (m : Int) := by omega
        obtain ⟨rb, rfl⟩ : ∃ rb, A6 = some ⟨rb, 0, none⟩ := by
          rcases R1.out.2 with ⟨e, h0⟩ | ⟨g, cap, cur, e, _⟩
          · have := HLm.out; omega
          · obtain ⟨e, _, _⟩ := Value.slice.inj e
            exact ⟨g, e⟩
        obtain ⟨Q, hQ⟩ : ∃ Q, Q = ((q1 + 1 : Nat) : Int) := ⟨_, rfl⟩
        go_wp2_with (refine wpList_store_row rfl 36 (.tmp 14) (.tmp 66) rfl t1.heap.size U rfl rfl 36 _ (heap_alloc_new t1 _) hsz.out h32.out hone.out ?_
                     generalize hW : World.setRow (t1.alloc (Obj.cells _ 36)) _ U = t2
                     have hB2 : Below t1.heap.size t1 t2 := by rw [← hW]; exact below_setRow (below_alloc1 t1 _) (Nat.le_refl _) _
                     have b2 : t2.heap[t1.heap.size]? = some (.cells U 36 (0, 0)) := by rw [← hW]; exact setRow_heap _ _ _ _ _ _ (heap_alloc_new t1 _)
                     have B2 := Lib.hid (B1.out.trans (hB2.mono B1.out.size))
                     have XS : Hid (t2.drew.heap[t1.heap.size]? = some (.cells U 36 (0, 0)) ∧ t2.drew.rangeAt rb (q1 * 32) UL) := ⟨b2, HQ1.out q1 t2.drew rb rfl (row_fresh (row_fresh R1.out hB2) (Below.refl _ t2).drew)⟩
                     clear hW hB2 b2)
        refine wp_region_held_drew (S := (fun W => W.heap[t1.heap.size]? = some (.cells U 36 (0, 0)) ∧ W.rangeAt rb (q1 * 32) UL)) (by kernel_rfl) (XS.out) (fun hHeld => ?_)
        refine takeH (i := 0) (some 81) (v := ?_) rfl rfl (by kernel_rfl) (by kernel_rfl) (by kernel_rfl) (fun _ _ _ h => h) (by rfl) ?_ (by assumption) ?_
        rotate_left
        · (intro w hSw; (try dsimp only at hSw); obtain ⟨hS1, hS2⟩ := hSw; go_simp; try with_reducible rfl)
        simp only [Act.put, List.setIfInBounds_toArray, List.set_cons_zero, List.set_cons_succ]
        refine takeH (i := 1) (some 82) (v := ?_) rfl rfl (by kernel_rfl) (by kernel_rfl) (by kernel_rfl) (fun _ _ _ h => h) (by rfl) ?_ (by assumption) ?_
        rotate_left
        · (intro w hSw; (try dsimp only at hSw); obtain ⟨hS1, hS2⟩ := hSw; go_simp; try with_reducible rfl)
        simp only [Act.put, List.setIfInBounds_toArray, List.set_cons_zero, List.set_cons_succ]
        refine takeH (i := 2) (some 83) (v := ?_) rfl rfl (by kernel_rfl) (by kernel_rfl) (by kernel_rfl) (fun _ _ _ h => h) (by rfl) ?_ (by assumption) ?_
        rotate_left
        · (intro w hSw; (try dsimp only at hSw); obtain ⟨hS1, hS2⟩ := hSw; go_simp; try with_reducible rfl)
        simp only [Act.put, List.setIfInBounds_toArray, List.set_cons_zero, List.set_cons_succ]
        refine takeH (i := 3) (some 84) (v := ?_) rfl rfl (by kernel_rfl) (by kernel_rfl) (by kernel_rfl) (fun _ _ _ h => h) (by rfl) ?_ (by assumption) ?_
        rotate_left
        · (intro w hSw; (try dsimp only at hSw); obtain ⟨hS1, hS2⟩ := hSw; go_simp; try with_reducible rfl)
        simp only [Act.put, List.setIfInBounds_toArray, List.set_cons_zero, List.set_cons_succ]
        refine takeH (i := 4) (some 85) (v := ?_) rfl rfl (by kernel_rfl) (by kernel_rfl) (by kernel_rfl) (fun _ _ _ h => h) (by rfl) ?_ (by assumption) ?_
        rotate_left
        · (intro w hSw; (try dsimp only at hSw); obtain ⟨hS1, hS2⟩ := hSw; go_simp; try with_reducible rfl)
        simp only [Act.put, List.setIfInBounds_toArray, List.set_cons_zero, List.set_cons_succ]
        refine takeH (i := 5) (some 86) (v := ?_) rfl rfl (by kernel_rfl) (by kernel_rfl) (by kernel_rfl) (fun _ _ _ h => h) (by rfl) ?_ (by assumption) ?_
        rotate_left
        · (intro w hSw; (try dsimp only at hSw); obtain ⟨hS1, hS2⟩ := hSw; go_simp; try with_reducible rfl)
        simp only [Act.put, List.setIfInBounds_toArray, List.set_cons_zero, List.set_cons_succ]
        refine takeH (i := 6) (some 87) (v := ?_) rfl rfl (by kernel_rfl) (by kernel_rfl) (by kernel_rfl) (fun _ _ _ h => h) (by rfl) ?_ (by assumption) ?_
        rotate_left
        · (intro w hSw; (try dsimp only at hSw); obtain ⟨hS1, hS2⟩ := hSw; go_simp; try with_reducible rfl)
        simp only [Act.put, List.setIfInBounds_toArray, List.set_cons_zero, List.set_cons_succ]
        refine takeH (i := 7) (some 88) (v := ?_) rfl rfl (by kernel_rfl) (by kernel_rfl) (by kernel_rfl) (fun _ _ _ h => h) (by rfl) ?_ (by assumption) ?_
        rotate_left
        · (intro w hSw; (try dsimp only at hSw); obtain ⟨hS1, hS2⟩ := hSw; (refine exec_row 36 (.tmp 14) ?_ _ ?_ 36 U (0, 0) _ hS1 Try.underlying36 rfl hsz.out) <;> rfl)
        simp only [Act.put, List.setIfInBounds_toArray, List.set_cons_zero, List.set_cons_succ]
        refine takeH (i := 8) (some 89) (v := ?_) rfl rfl (by kernel_rfl) (by kernel_rfl) (by kernel_rfl) (fun _ _ _ h => h) (by rfl) ?_ (by assumption) ?_
        rotate_left
        · (intro w hSw; (try dsimp only at hSw); obtain ⟨hS1, hS2⟩ := hSw; go_simp; try with_reducible rfl)
        simp only [Act.put, List.setIfInBounds_toArray, List.set_cons_zero, List.set_cons_succ]
        refine takeH (i := 9) (some 90) (v := ?_) rfl rfl (by kernel_rfl) (by kernel_rfl) (by kernel_rfl) (fun _ _ _ h => h) (by rfl) ?_ (by assumption) ?_
        rotate_left
        · (intro w hSw; (try dsimp only at hSw); obtain ⟨hS1, hS2⟩ := hSw; go_simp; try with_reducible rfl)
        simp only [Act.put, List.setIfInBounds_toArray, List.set_cons_zero, List.set_cons_succ]
        refine takeH (i := 10) (some 91) (v := ?_) rfl rfl (by kernel_rfl) (by kernel_rfl) (by kernel_rfl) (fun _ _ _ h => h) (by rfl) ?_ (by assumption) ?_
        rotate_left
        · (intro w hSw; (try dsimp only at hSw); obtain ⟨hS1, hS2⟩ := hSw; go_simp; try with_reducible rfl)
        simp only [Act.put, List.setIfInBounds_toArray, List.set_cons_zero, List.set_cons_succ]
        refine takeH (i := 11) (some 92) (v := ?_) rfl rfl (by kernel_rfl) (by kernel_rfl) (by kernel_rfl) (fun _ _ _ h => h) (by rfl) ?_ (by assumption) ?_
        rotate_left
        · (intro w hSw; (try dsimp only at hSw); obtain ⟨hS1, hS2⟩ := hSw; go_simp; try with_reducible rfl)
        simp only [Act.put, List.setIfInBounds_toArray, List.set_cons_zero, List.set_cons_succ]
        refine takeH (i := 12) (some 93) (v := ?_) rfl rfl (by kernel_rfl) (by kernel_rfl) (by kernel_rfl) (fun _ _ _ h => h) (by rfl) ?_ (by assumption) ?_
        rotate_left
        · (intro w hSw; (try dsimp only at hSw); obtain ⟨hS1, hS2⟩ := hSw; (refine exec_mid 36 (.tmp 92) ?_ rb (q1 * 32) ?_ UL _ hS2 Try.underlying36 rfl hszL.out) <;> rfl)
        simp only [Act.put, List.setIfInBounds_toArray, List.set_cons_zero, List.set_cons_succ]
        refine takeH (i := 13) (some 94) (v := ?_) rfl rfl (by kernel_rfl) (by kernel_rfl) (by kernel_rfl) (fun _ _ _ h => h) (by rfl) ?_ (by assumption) ?_
        rotate_left
        · (intro w hSw; (try dsimp only at hSw); obtain ⟨hS1, hS2⟩ := hSw; (refine EQ.out _ _ _ ?_ ?_ ?_) <;> rfl)
        simp only [Act.put, List.setIfInBounds_toArray, List.set_cons_zero, List.set_cons_succ]
        refine takeH (i := 14) (some 95) (v := ?_) rfl rfl (by kernel_rfl) (by kernel_rfl) (by kernel_rfl) (fun _ _ _ h => h) (by rfl) ?_ (by assumption) ?_
        rotate_left
        · (intro w hSw; (try dsimp only at hSw); obtain ⟨hS1, hS2⟩ := hSw; go_simp; try with_reducible rfl)
        simp only [Act.put, List.setIfInBounds_toArray, List.set_cons_zero, List.set_cons_succ]
        refine takeH (i := 15) (some 4) (v := ?_) rfl rfl (by kernel_rfl) (by kernel_rfl) (by kernel_rfl) (fun _ _ _ h => h) (by rfl) ?_ (by assumption) ?_
        rotate_left
        · (intro w hSw; (try dsimp only at hSw); obtain ⟨hS1, hS2⟩ := hSw; go_simp; try with_reducible rfl)
        simp only [Act.put, List.setIfInBounds_toArray, List.set_cons_zero, List.set_cons_succ]
        refine wpAnyH_done (by kernel_rfl) ?_ _
        go_wp2
        go_ret
        exact ⟨rfl, B2.out.drew⟩
end Go.Proofs.Ytieeibdhaoaeaaa.TopVersions
