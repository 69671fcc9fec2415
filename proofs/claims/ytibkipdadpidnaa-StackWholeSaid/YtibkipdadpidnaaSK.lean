/- Bytes of a block; deeds on both stacks, one behind the other. -/
import Derived.Test.YtibkipdadpidnaaSD
import Derived.ChangeShapes
import Derived.OpenShut
import Derived.Deep.Slices
import Derived.Deep.Strs
import Derived.ProofKit
set_option linter.unusedVariables false
set_option linter.unusedSimpArgs false
namespace Go.Proofs.Ytibkipdadpidnaa
open Go.RowKit
open Pat (Pt AllB undoP nth)
/-- the bytes of a block, filled up with zeros -/
def blockF (l : List Int) : List Int := (List.range 32).map (nth l)
theorem blockF_len (l : List Int) : (blockF l).length = 32 := by simp [blockF]
theorem blockF_nth (l : List Int) {j : Nat} (h : j < 32) : nth (blockF l) j = nth l j := by
  rw [Pat.nth_lt (by rw [blockF_len]; exact h)]
  simp [blockF]
theorem blockF_all {l : List Int} (h : AllB l) : AllB (blockF l) := fun x hx => by
  obtain ⟨j, _, rfl⟩ := List.mem_map.1 hx
  exact h.nth j
/-- so far -/
def blkK (l f : List Int) (k : Nat) : Prop := f.length = 32 ∧ ∀ j, j < 32 → nth f j = if j < k then nth l j else 0
theorem blkK_step {l f : List Int} {k : Nat} (h : blkK l f k) (hk : k < 32) : blkK l (f.set k (nth l k)) (k + 1) := by
  refine ⟨by rw [List.length_set]; exact h.1, fun j hj => ?_⟩
  rw [Pat.nth_lt (by rw [List.length_set, h.1]; exact hj), List.getElem_set]
  by_cases e : k = j
  · rw [if_pos e, if_pos (by omega), e]
  · rw [if_neg e, ← Pat.nth_lt (by rw [h.1]; exact hj), h.2 j hj]
    by_cases e2 : j < k
    · rw [if_pos e2, if_pos (by omega)]
    · rw [if_neg e2, if_neg (by omega)]
theorem blkK_end {l f : List Int} {k : Nat} (h : blkK l f k) (hk : 32 ≤ k ∨ l.length ≤ k) : f = blockF l := by
  refine Pat.ext_nth (by rw [h.1, blockF_len]) (fun j hj => ?_)
  rw [h.1] at hj
  rw [h.2 j hj, blockF_nth l hj]
  by_cases e : j < k
  · rw [if_pos e]
  · rw [if_neg e, Pat.nth_ge (by omega)]
theorem blkK_zero (l : List Int) : blkK l (List.replicate 32 0) 0 := ⟨by simp, fun j hj => by
  rw [if_neg (by omega), Pat.nth_lt (by rw [List.length_replicate]; exact hj), List.getElem_replicate]⟩
/-- a block of bytes came back -/
def GivesK (w : World) (f : List Int) (e : Ending) (w' : World) : Prop := ∃ d, e = .returned (.slice (some ⟨d, 0, none⟩) 32 32) ∧ Pat.Bts w' w'.heap.size (some ⟨d, 0, none⟩) f ∧ Below w.heap.size w w'
set_option maxRecDepth 100000 in
set_option maxHeartbeats 2000000 in
theorem block_any (A : Option Addr) (c : Nat) (l : List Int) (w : World) (hb : Pat.Bts w w.heap.size A l) : Calls Try.prog 32 #[.slice A l.length c] w (GivesK w (blockF l)) := by
  have hmk : ∀ W, (Instr.makeSlice 22 (.int .i64 32) (.int .i64 32)).run Try.prog W = .ok (.slice (some ⟨W.heap.size, 0, none⟩) 32 32) (W.alloc (.cells (madeCells #[Value.int .u8 0] 32) 5)) := fun W => run_make_row' (P := Try.prog) 22 5 (.int .u8 0) 1 Try.underlying22 Pat.info5 rfl .i64 .i64 32 (by omega) (by omega) W
  rw [Pat.made_bytes] at hmk
  have HB := Lib.hid hb
  have HAl := Lib.hid (blockF_all hb.1)
  have H0 : Hid (Pat.BlkIs (w.alloc (.cells (Pat.bytesV (List.replicate 32 0)).toArray 5)) w.heap.size 5 (Pat.bytesV (List.replicate 32 0))) := heap_alloc_new w _
  have HB0 : Hid (Below w.heap.size w (w.alloc (.cells (Pat.bytesV (List.replicate 32 0)).toArray 5))) := Pat.below_alloc1 w _
  have HK0 := Lib.hid (blkK_zero l)
  clear hb
  generalize List.replicate 32 (0 : Int) = z at *
  go_enter Try.func32, Try.ntmps32
  go_wp2
  generalize w.alloc (.cells (Pat.bytesV z).toArray 5) = w0 at *
  go_loopw [4] (fun i wr => ∃ (k : Nat) (f : List Int), k ≤ l.length ∧ k ≤ 32 ∧ i = .int .i64 k ∧ Hid (blkK l f k) ∧ Hid (Pat.BlkIs wr w.heap.size 5 (Pat.bytesV f)) ∧ Hid (Below w.heap.size w wr)) (fun i _ => 32 - (intOf i).toNat)
  case atStart => exact ⟨0, z, Nat.zero_le _, Nat.zero_le _, rfl, HK0.out, H0.out, HB0.out⟩
  case round =>
    obtain ⟨k, f, hk, hk32, rfl, hK, hF, hB⟩ := hrel
    rename World => wr
    have hk0 : (0 : Int) ≤ (k : Int) := by omega
    by_cases hlt : k < l.length
    · have hlti : (k : Int) < (l.length : Int) := by omega
      by_cases h32 : k < 32
      · have h32i : (k : Int) < 32 := by omega
        obtain ⟨b, off, rfl, hbb, hc⟩ := HB.out.at_ hlt
        have hc2 := (hB.out.cell (p := ⟨b, off + k, none⟩) hbb).trans hc
        have hbz := Nat.lt_of_lt_of_le hbb hB.out.size
        have hd := Pat.BlkIs.lt hF.out
        have hfl : (Pat.bytesV f).length = 32 := by rw [Pat.length_bytesV]; exact hK.out.1
        obtain ⟨v, hv⟩ : ∃ v, wr.cell? ⟨w.heap.size, k, none⟩ = some v := ⟨_, by rw [hF.out.cell k, List.getElem?_eq_getElem (by omega)]⟩
        have hfr := hF.out.frozen k
        have HS := Lib.hid (hF.out.set_ k (.int .u8 (nth l k)))
        have HS2 := Lib.hid (blkK_step hK.out h32)
        have HS3 := Lib.hid (hB.out.setCell (p := ⟨w.heap.size, k, none⟩) (Nat.le_refl _) (.int .u8 (nth l k)))
        rw [Pat.bytesV_set] at HS
        clear hc hfl
        generalize nth l k = x at *
        go_wp2
        go_roundw
        case rel => exact ⟨k + 1, f.set k x, by omega, by omega, by go_num, HS2.out, HS.out, HS3.out⟩
        case measure => simp [intOf]; omega
      · obtain rfl : k = 32 := by omega
        have HE : Hid (f = blockF l) := blkK_end hK.out (.inl (by omega))
        have HR : Hid (Pat.Bts wr wr.heap.size (some ⟨w.heap.size, 0, none⟩) (blockF l)) := by
          have := hF.out
          rw [HE.out] at this
          exact bts_blk this HAl.out (blockF_len l)
        clear hF
        go_wp2
        go_ret
        exact ⟨_, rfl, HR.out, hB.out⟩
    · have hlti : ¬ (k : Int) < (l.length : Int) := by omega
      have HE : Hid (f = blockF l) := blkK_end hK.out (.inr (by omega))
      have HR : Hid (Pat.Bts wr wr.heap.size (some ⟨w.heap.size, 0, none⟩) (blockF l)) := by
        have := hF.out
        rw [HE.out] at this
        exact bts_blk this HAl.out (blockF_len l)
      clear hF
      go_wp2
      go_ret
      exact ⟨_, rfl, HR.out, hB.out⟩
end Go.Proofs.Ytibkipdadpidnaa
/- Deeds on both stacks, one behind the other; what must be whatever is asked. -/
set_option linter.unusedVariables false
set_option linter.unusedSimpArgs false
namespace Go.Proofs.Ytibkipdadpidnaa
open Go.RowKit
open Pat (Pt AllB undoP nth)
def ddn (ds : List Dd) (j : Nat) : Dd := ds.getD j ⟨0, 0, 0, Pat.zeroP, none, [], 0⟩
theorem ddn_lt {ds : List Dd} {j : Nat} (h : j < ds.length) : ddn ds j = ds[j] := by
  unfold ddn; rw [List.getD_eq_getElem?_getD, List.getElem?_eq_getElem h]; rfl
/-- the cells at an address are a deed's -/
def DdAt (w : World) (b o : Nat) (d : Dd) : Prop := w.cell? ⟨b, o, none⟩ = some (.int .i64 d.k) ∧ w.cell? ⟨b, o + 1, none⟩ = some (.int .i64 d.n) ∧ w.cell? ⟨b, o + 2, none⟩ = some (.int .i64 d.m) ∧ w.cell? ⟨b, o + 3, none⟩ = some (.int .i64 d.p.b) ∧ w.cell? ⟨b, o + 4, none⟩ = some (.int .i64 d.p.o) ∧ w.cell? ⟨b, o + 5, none⟩ = some (.string d.p.s) ∧ w.cell? ⟨b, o + 6, none⟩ = some (.slice d.A d.l.length d.c)
/-- a slice's address under which the cells are the deeds ds -/
def Deeds (w : World) (A : Option Addr) (ds : List Dd) : Prop :=
  0 < ds.length → ∃ b off, A = some ⟨b, off, none⟩ ∧ b < w.heap.size ∧ ∀ j, j < ds.length → DdAt w b (off + j * 7) (ddn ds j) ∧ (ddn ds j).ok w w.heap.size
theorem Deeds.next {w w' : World} {A : Option Addr} {ds : List Dd} (h : Deeds w A ds) (hb : Below w.heap.size w w') : ∀ (_ : 0 < ds.length), ∃ b off, A = some ⟨b, off, none⟩ ∧ b < w'.heap.size ∧ ∀ j, j < ds.length → DdAt w' b (off + j * 7) (ddn ds j) ∧ (ddn ds j).ok w' w.heap.size := fun hn => by
  obtain ⟨b, off, e, hlt, hc⟩ := h hn
  refine ⟨b, off, e, Nat.lt_of_lt_of_le hlt hb.size, fun j hj => ?_⟩
  obtain ⟨⟨c0, c1, c2, c3, c4, c5, c6⟩, hk⟩ := hc j hj
  have f : ∀ o, w'.cell? ⟨b, o, none⟩ = w.cell? ⟨b, o, none⟩ := fun o => hb.cell (p := ⟨b, o, none⟩) hlt
  exact ⟨⟨(f _).trans c0, (f _).trans c1, (f _).trans c2, (f _).trans c3, (f _).trans c4, (f _).trans c5, (f _).trans c6⟩, hk.keep hb⟩
/-- what play leaves -/
def Played (w : World) (e : Ending) (w' : World) : Prop :=
  ∃ g r s, e = .returned (.tuple #[.pointer (some ⟨g, 0, none⟩), .pointer (some ⟨r, 0, none⟩), .bool true]) ∧ Two w.heap.size w' g r s s ∧ Ok 30 s ∧ Below w.heap.size w w'
theorem StkAt.base {B B' g : Nat} {w : World} {L : List Ly} {s : Sk} (h : StkAt B w g L s) (hB : B' ≤ B) : StkAt B' w g L s := ⟨h.head, h.ch, h.xs, Nat.le_trans hB h.lo, h.len, h.all⟩
theorem Rf.base {B B' r : Nat} {w : World} {s : Sk} (h : Rf B w r s) (hB : B' ≤ B) : Rf B' w r s := by
  obtain ⟨bA, bc, A, c, h⟩ := h
  exact ⟨bA, bc, A, c, h.head, h.base, h.row, Nat.le_trans hB h.lo, h.all⟩
theorem ok_none (f : List Int) : Ok 0 ⟨f, [], 0⟩ := ⟨fun x hx => (by cases hx), List.Pairwise.nil, fun x hx => (by cases hx), Int.le_refl _, Int.le_refl _, Nat.le_refl _⟩
set_option maxRecDepth 100000 in
set_option maxHeartbeats 4000000 in
theorem play_any (A0 : Option Addr) (c0 : Nat) (l : List Int) (A : Option Addr) (cap : Nat) (ds : List Dd) (w : World) (hb : Pat.Bts w w.heap.size A0 l) (hcap : ds.length ≤ cap) (hmax : cap ≤ maxLen) (hds : Deeds w A ds) :
    Calls Try.prog 11 #[.slice A0 l.length c0, .slice A ds.length cap] w (Played w) := by
  have hf := blockF_len l
  have HBk : Hid (∀ W, Below w.heap.size w W → Calls Try.prog 32 #[.slice A0 l.length c0] W (GivesK W (blockF l))) := fun W hW => block_any A0 c0 l W ((hb.below hW).more hW.size)
  generalize blockF l = f at *
  have HNw : Hid (∀ W d, Pat.Bts W W.heap.size (some ⟨d, 0, none⟩) f → Calls Try.prog 31 #[.slice (some ⟨d, 0, none⟩) 32 32] W fun e w' => ∃ g, e = .returned (.pointer (some ⟨g, 0, none⟩)) ∧ StkAt W.heap.size w' g [] ⟨f, [], 0⟩ ∧ Below W.heap.size W w') := fun W d h => pnew_any _ 32 f W hf h
  have HRw : Hid (∀ W d, Pat.Bts W W.heap.size (some ⟨d, 0, none⟩) f → Calls Try.prog 33 #[.slice (some ⟨d, 0, none⟩) 32 32] W fun e w' => ∃ r, e = .returned (.pointer (some ⟨r, 0, none⟩)) ∧ Rf W.heap.size w' r ⟨f, [], 0⟩ ∧ Below W.heap.size W w') := fun W d h => rnew_any _ 32 f W hf h
  have HD := Lib.hid hds
  unfold maxLen at hmax
  clear hds hb hf
  go_enter Try.func11, Try.ntmps11
  go_wp2_with (first
    | (go_at_call 31; (with_reducible refine (HNw.out _ _ T1.out).mono ?_); rintro e w2 ⟨g, rfl, hp, hb2⟩; have HP := Lib.hid (hp.base B1.out.size); have B2 := Lib.hid (Below.trans B1.out (Below.mono hb2 B1.out.size)); clear hp hb2)
    | (go_at_call 33; (with_reducible refine (HRw.out _ _ T3.out).mono ?_); rintro e w4 ⟨r, rfl, hr, hb4⟩; have HR := Lib.hid (hr.base B3.out.size); have HP4 := Lib.hid (HP3.out.fresh hb4); have B4 := Lib.hid (Below.trans B3.out (Below.mono hb4 B3.out.size)); clear hr hb4)
    | (go_at_call 32; (with_reducible refine (HBk.out _ B2.out).mono ?_); rintro e w3 ⟨d3, rfl, t3, hb3⟩; have T3 := Lib.hid t3; have HP3 := Lib.hid (HP.out.fresh hb3); have B3 := Lib.hid (Below.trans B2.out (Below.mono hb3 B2.out.size)); clear t3 hb3)
    | (go_at_call 32; (with_reducible refine (HBk.out _ (Below.refl _ _)).mono ?_); rintro e w1 ⟨d1, rfl, t1, hb1⟩; have T1 := Lib.hid t1; have B1 := Lib.hid hb1; clear t1 hb1))
  have HT : Hid (Two w.heap.size w4 g r ⟨f, [], 0⟩ ⟨f, [], 0⟩) := ⟨B4.out.size, ⟨[], HP4.out⟩, HR.out⟩
  have HB := Lib.hid B4.out
  clear HP HP3 HP4 HR B1 B2 B3 B4 T1 T3 HBk HNw HRw
  go_loopw [9] (fun i wr => ∃ (k : Nat) (s : Sk), k ≤ ds.length ∧ k ≤ 30 ∧ i = .int .i64 k ∧ Hid (Two w.heap.size wr g r s s) ∧ Hid (Ok k s) ∧ Hid (Below w.heap.size w wr)) (fun i _ => ds.length - (intOf i).toNat)
  case atStart => exact ⟨0, _, Nat.zero_le _, Nat.zero_le _, rfl, HT.out, ok_none f, HB.out⟩
  case round =>
    obtain ⟨k, s, hk, hk30, rfl, hT, hO, hB⟩ := hrel
    rename World => wr
    have hk0 : (0 : Int) ≤ (k : Int) := by omega
    by_cases hlt : k < ds.length
    · have hlti : (k : Int) < (ds.length : Int) := by omega
      by_cases h30 : k < 30
      · have h30i : (k : Int) < 30 := by omega
        obtain ⟨b, off, rfl, hb, hc⟩ := (HD.out.next hB.out) (by omega)
        obtain ⟨⟨x0, x1, x2, x3, x4, x5, x6⟩, hok⟩ := hc k hlt
        have HDo := Lib.hid (do_any w.heap.size g r k s (ddn ds k) wr hok hO.out (by omega) hT.out)
        have Hn := Lib.hid (hO.out.deed (ddn ds k))
        have HBd : Hid (∀ V, KG g r wr V → Below w.heap.size w V) := fun V h => Below.trans hB.out (hT.out.below h)
        generalize deed s (ddn ds k) = s2 at *
        generalize ddn ds k = d at *
        obtain ⟨dk, dn, dm, ⟨pb, po, ps⟩, dA, dl, dc⟩ := d
        unfold Dd.v Dd.cells DoSays at HDo
        simp only at HDo x0 x1 x2 x3 x4 x5 x6
        clear hc hok
        go_wp2_with (go_at_call 30; (with_reducible refine HDo.out.mono ?_); rintro e w3 ⟨rfl, t3, k3⟩; have T3 := Lib.hid t3; have B3 := Lib.hid (HBd.out _ k3); clear t3 k3)
        go_roundw
        case rel => exact ⟨k + 1, s2, by omega, by omega, by go_num, T3.out, Hn.out, B3.out⟩
        case measure => simp [intOf]; omega
      · obtain rfl : k = 30 := by omega
        go_wp2
        go_ret3
        exact ⟨_, _, s, rfl, hT.out, hO.out, hB.out⟩
    · have hlti : ¬ (k : Int) < (ds.length : Int) := by omega
      go_wp2
      go_ret3
      exact ⟨_, _, s, rfl, hT.out, hO.out.more (by omega), hB.out⟩
end Go.Proofs.Ytibkipdadpidnaa
/- What must be whatever is asked. -/
set_option linter.unusedVariables false
set_option linter.unusedSimpArgs false
namespace Go.Proofs.Ytibkipdadpidnaa
open Go.RowKit
open Pat (Pt AllB undoP nth)
/-- the program's alone -/
def PSt (B : Nat) (w : World) (g : Nat) (s : Sk) : Prop := B ≤ w.heap.size ∧ ∃ L, StkAt B w g L s
namespace PSt
variable {B c g : Nat} {w w' : World} {s s' : Sk}
theorem fresh (h : PSt B w g s) (hb : Below w.heap.size w w') : PSt B w' g s := by
  obtain ⟨h0, L, h1⟩ := h
  exact ⟨Nat.le_trans h0 hb.size, L, h1.fresh hb⟩
theorem pw (h : PSt B w g s) (hw : PW B w g s' w') : PSt B w' g s' ∧ Below B w w' := by
  obtain ⟨h0, L, h1⟩ := h
  exact ⟨⟨Nat.le_trans h0 hw.2.size, hw.1⟩, Kept.below hw.2 (fun b e => by rw [e]; exact h1.lo) h0⟩
theorem push (h : PSt B w g s) (hO : Ok c s) (hc : c ≤ 190) (p : Pt) (hp : p.right = true) : Calls Try.prog 18 #[.pointer (some ⟨g, 0, none⟩), p.v] w fun e w' => e = .returned (.tuple #[.int .i64 s.k, .int .i64 0]) ∧ PSt B w' g (pushS s p) ∧ Below B w w' := by
  obtain ⟨L, h1⟩ := h.2
  have h0 := hO.k0
  have h4 := hO.k1
  have h2 := hO.len
  exact (ppush_yes B g L s w p h1 (by omega) h0 (by omega) hp).mono fun e w' q => ⟨q.1, h.pw q.2⟩
theorem under (h : PSt B w g s) (hO : Ok c s) (hc : c ≤ 190) (n : Int) (hn : isOn s.l n = true) : Calls Try.prog 19 #[.pointer (some ⟨g, 0, none⟩), .int .i64 n] w fun e w' => e = .returned (.tuple #[.string (underT s.f s.l n), .int .i64 0]) ∧ PSt B w' g s ∧ Below B w w' := by
  obtain ⟨L, h1⟩ := h.2
  have h2 := hO.len
  exact (punder_yes B g L s n w h1 hO.r hO.rise (by omega) hn).mono fun e w' q => ⟨q.1, h.fresh q.2, q.2.mono h.1⟩
theorem squash (h : PSt B w g s) (hO : Ok c s) (hc : c ≤ 190) (a n : Int) (ha : isOn s.l a = true) (hn : isOn s.l n = true) (han : a < n) (hE : sqE s.l a n = 0) : Calls Try.prog 23 #[.pointer (some ⟨g, 0, none⟩), .int .i64 a, .int .i64 n] w fun e w' => e = .returned (.int .i64 0) ∧ PSt B w' g (squashS s a n) ∧ Below B w w' := by
  obtain ⟨L, h1⟩ := h.2
  have h2 := hO.len
  have := psquash_main B g L s a n w h1 hO.r hO.rise (by omega) ha hn han
  rw [hE, if_pos rfl] at this
  exact this.mono fun e w' q => ⟨q.1, h.pw q.2⟩
theorem get (h : PSt B w g s) (hO : Ok c s) (n : Int) : Calls Try.prog 26 #[.pointer (some ⟨g, 0, none⟩), .int .i64 n] w fun e w' => e = .returned (.tuple #[(patP s.l n).v, .bool (isOn s.l n)]) ∧ PSt B w' g s ∧ Below B w w' := by
  obtain ⟨L, h1⟩ := h.2
  exact (pget_any B g L s n w h1 hO.rise).mono fun e w' q => ⟨q.1, h.fresh q.2, q.2.mono h.1⟩
theorem bytes (h : PSt B w g s) (hO : Ok c s) (hc : c ≤ 190) : Calls Try.prog 17 #[.pointer (some ⟨g, 0, none⟩)] w fun e w' => ∃ d, e = .returned (.slice (some ⟨d, 0, none⟩) 32 32) ∧ (∀ j, j < 32 → w'.cell? ⟨d, j, none⟩ = some (.int .u8 (nth (allB s) j))) ∧ d < w'.heap.size ∧ PSt B w' g s ∧ Below B w w' := by
  obtain ⟨L, h1⟩ := h.2
  have h2 := hO.len
  have hl := withL_len (k := fun _ => true) hO.r h1.len
  exact (pbytes_any B g L s w h1 hO.r (by omega)).mono fun e w' ⟨d, e1, e2, e3, e4⟩ => ⟨d, e1, fun j hj => by
    rw [e2.cell j, Pat.bytesV, List.getElem?_map, List.getElem?_eq_getElem (by rw [hl]; exact hj), ← Pat.nth_lt (by rw [hl]; exact hj)]; rfl, Pat.BlkIs.lt e2, h.fresh e4, e4.mono h.1⟩
end PSt
def z0 : Sk := ⟨List.replicate 32 0, [], 0⟩
def pt1 : Pt := ⟨0, 0, ⟨#[97, 98]⟩⟩
def pt2 : Pt := ⟨0, 1, ⟨#[120]⟩⟩
def z1 : Sk := pushS z0 pt1
def z2 : Sk := pushS z1 pt2
def z3 : Sk := squashS z2 0 1
theorem ok1 : Ok 1 z1 := by
  have := (ok_none (List.replicate 32 0)).push pt1
  unfold push0 at this
  rwa [if_pos (by decide +kernel)] at this
theorem ok2 : Ok 2 z2 := by
  have := ok1.push pt2
  unfold push0 at this
  rwa [if_pos (by decide +kernel)] at this
theorem z_on : isOn z2.l 0 = true ∧ isOn z2.l 1 = true ∧ sqE z2.l 0 1 = 0 ∧ isOn z3.l 0 = true := ⟨by decide +kernel, by decide +kernel, by decide +kernel, by decide +kernel⟩
theorem ok3 : Ok 2 z3 := by
  have := ok2.squash 0 1
  unfold squash0 at this
  rwa [if_pos z_on.2.2.1] at this
theorem z_und : underT z2.f z2.l 1 = ⟨#[98]⟩ := by decide +kernel
theorem z_pat : patP z3.l 0 = ⟨0, 0, ⟨#[97, 120]⟩⟩ := by
  have h1 : (patP z3.l 0).b = 0 := by decide +kernel
  have h2 : (patP z3.l 0).o = 0 := by decide +kernel
  have h3 : (patP z3.l 0).s = ⟨#[97, 120]⟩ := by decide +kernel
  generalize patP z3.l 0 = p at *
  obtain ⟨b, o, s⟩ := p
  subst h1 h2 h3
  rfl
theorem z_byte : nth (allB z3) 1 = 120 := by decide +kernel
set_option maxRecDepth 100000 in
set_option maxHeartbeats 4000000 in
theorem live_any (w : World) : Calls Try.prog 12 #[] w fun e w' => e = .returned (.bool true) ∧ Below w.heap.size w w' := by
  have hmk : ∀ W, (Instr.makeSlice 22 (.int .i64 32) (.int .i64 32)).run Try.prog W = .ok (.slice (some ⟨W.heap.size, 0, none⟩) 32 32) (W.alloc (.cells (madeCells #[Value.int .u8 0] 32) 5)) := fun W => run_make_row' (P := Try.prog) 22 5 (.int .u8 0) 1 Try.underlying22 Pat.info5 rfl .i64 .i64 32 (by omega) (by omega) W
  rw [Pat.made_bytes] at hmk
  have HN : Hid (Calls Try.prog 31 #[.slice (some ⟨w.heap.size, 0, none⟩) 32 32] (w.alloc (.cells (Pat.bytesV (List.replicate 32 0)).toArray 5)) fun e w' => ∃ g, e = .returned (.pointer (some ⟨g, 0, none⟩)) ∧ PSt w.heap.size w' g z0 ∧ Below w.heap.size w w') := by
    have hb := Pat.below_alloc1 w (.cells (Pat.bytesV (List.replicate 32 0)).toArray 5)
    exact (pnew_any _ 32 (List.replicate 32 0) _ List.length_replicate (bts_blk (heap_alloc_new w _) (fun x hx => by rw [List.eq_of_mem_replicate hx]; omega) List.length_replicate)).mono fun e w' ⟨g, e1, e2, e3⟩ =>
      ⟨g, e1, ⟨Nat.le_trans hb.size e3.size, [], e2.base hb.size⟩, hb.trans (e3.mono hb.size)⟩
  have K1 : Hid (∀ W g, PSt w.heap.size W g z0 → Calls Try.prog 18 #[.pointer (some ⟨g, 0, none⟩), .agg #[.int .i64 0, .int .i64 0, .string ⟨#[97, 98]⟩]] W fun e w' => e = .returned (.tuple #[.int .i64 0, .int .i64 0]) ∧ PSt w.heap.size w' g z1 ∧ Below w.heap.size W w') := fun W g h => h.push (ok_none _) (by omega) pt1 (by decide +kernel)
  have K2 : Hid (∀ W g, PSt w.heap.size W g z1 → Calls Try.prog 18 #[.pointer (some ⟨g, 0, none⟩), .agg #[.int .i64 0, .int .i64 1, .string ⟨#[120]⟩]] W fun e w' => e = .returned (.tuple #[.int .i64 1, .int .i64 0]) ∧ PSt w.heap.size w' g z2 ∧ Below w.heap.size W w') := fun W g h => h.push ok1 (by omega) pt2 (by decide +kernel)
  have K3 : Hid (∀ W g, PSt w.heap.size W g z2 → Calls Try.prog 19 #[.pointer (some ⟨g, 0, none⟩), .int .i64 1] W fun e w' => e = .returned (.tuple #[.string ⟨#[98]⟩, .int .i64 0]) ∧ PSt w.heap.size w' g z2 ∧ Below w.heap.size W w') := fun W g h => by have := h.under ok2 (by omega) 1 z_on.2.1; rwa [z_und] at this
  have K4 : Hid (∀ W g, PSt w.heap.size W g z2 → Calls Try.prog 23 #[.pointer (some ⟨g, 0, none⟩), .int .i64 0, .int .i64 1] W fun e w' => e = .returned (.int .i64 0) ∧ PSt w.heap.size w' g z3 ∧ Below w.heap.size W w') := fun W g h => h.squash ok2 (by omega) 0 1 z_on.1 z_on.2.1 (by omega) z_on.2.2.1
  have K5 : Hid (∀ W g, PSt w.heap.size W g z3 → Calls Try.prog 26 #[.pointer (some ⟨g, 0, none⟩), .int .i64 0] W fun e w' => e = .returned (.tuple #[.agg #[.int .i64 0, .int .i64 0, .string ⟨#[97, 120]⟩], .bool true]) ∧ PSt w.heap.size w' g z3 ∧ Below w.heap.size W w') := fun W g h => by
    have := h.get ok3 0
    rw [z_pat, z_on.2.2.2] at this
    exact this
  have K6 : Hid (∀ W g, PSt w.heap.size W g z3 → Calls Try.prog 17 #[.pointer (some ⟨g, 0, none⟩)] W fun e w' => ∃ d, e = .returned (.slice (some ⟨d, 0, none⟩) 32 32) ∧ w'.cell? ⟨d, 1, none⟩ = some (.int .u8 120) ∧ d < w'.heap.size ∧ Below w.heap.size W w') := fun W g h => (h.bytes ok3 (by omega)).mono fun e w' ⟨d, e1, e2, e3, _, e4⟩ => ⟨d, e1, by rw [e2 1 (by omega), z_byte], e3, e4⟩
  have HX : Hid (∀ (V : World) (x : Obj) g s, PSt w.heap.size V g s → Below w.heap.size w V → PSt w.heap.size (V.alloc x) g s ∧ Below w.heap.size w (V.alloc x)) := fun V x g s h k => ⟨h.fresh (Pat.below_alloc1 V x), k.alloc h.1 x⟩
  generalize List.replicate 32 (0 : Int) = z at *
  generalize z0 = z0 at *
  generalize z1 = z1 at *
  generalize z2 = z2 at *
  generalize z3 = z3 at *
  go_enter Try.func12, Try.ntmps12
  go_wp2_with (first
    | (go_at_call 31; (with_reducible refine HN.out.mono ?_); rintro e w1 ⟨g, rfl, h1, b1⟩; have H1 := Lib.hid h1; have B1 := Lib.hid b1; clear h1 b1)
    | (go_at_call 18; (with_reducible refine (K1.out _ _ H1.out).mono ?_); rintro e w2 ⟨rfl, h2, b2⟩; have H2 := Lib.hid h2; have B2 := Lib.hid (B1.out.trans b2); clear h2 b2)
    | (go_at_call 18; (with_reducible refine (K2.out _ _ H2.out).mono ?_); rintro e w3 ⟨rfl, h3, b3⟩; have H3 := Lib.hid h3; have B3 := Lib.hid (B2.out.trans b3); clear h3 b3)
    | (go_at_call 19; (with_reducible refine (K3.out _ _ H3.out).mono ?_); rintro e w4 ⟨rfl, h4, b4⟩; have H4 := Lib.hid h4; have B4 := Lib.hid (B3.out.trans b4); clear h4 b4)
    | (go_at_call 23; (with_reducible refine (K4.out _ _ H4.out).mono ?_); rintro e w5 ⟨rfl, h5, b5⟩; have H5 := Lib.hid h5; have B5 := Lib.hid (B4.out.trans b5); clear h5 b5)
    | (go_at_call 26; (with_reducible refine (K5.out _ _ H5.out).mono ?_); rintro e w6 ⟨rfl, h6, b6⟩; have H6 := Lib.hid (HX.out _ (.cells #[.int .i64 0, .int .i64 0, .string ⟨#[97, 120]⟩] 38) _ _ h6 (B5.out.trans b6)); clear h6 b6)
    | (go_at_call 17; (with_reducible refine (K6.out _ _ H6.out.1).mono ?_); rintro e w7 ⟨d7, rfl, x7, l7, b7⟩; have B7 := Lib.hid (H6.out.2.trans b7); clear b7))
  go_ret
  exact ⟨rfl, B7.out⟩
end Go.Proofs.Ytibkipdadpidnaa
/- What came in: bytes, numbers, patches, deeds. -/
set_option linter.unusedVariables false
set_option linter.unusedSimpArgs false
namespace Go.Proofs.Ytibkipdadpidnaa
open Go.RowKit Go.ChangeShapes Go.WideShapes Go.ChangeAt
open Pat (Pt AllB undoP nth)
theorem bounds_i64 {n : Int} (h : (Lit.int .i64 n).wf = true) : -9223372036854775808 ≤ n ∧ n ≤ 9223372036854775807 := by
  simp [Lit.wf, IntKind.min, IntKind.max, IntKind.signed, IntKind.bits] at h
  omega
theorem bounds_u8 {n : Int} (h : (Lit.int .u8 n).wf = true) : 0 ≤ n ∧ n ≤ 255 := by
  simp [Lit.wf, IntKind.min, IntKind.max, IntKind.signed, IntKind.bits] at h
  omega
theorem lt_of_cell {w : World} {b o : Nat} {v : Value} (h : w.cell? ⟨b, o, none⟩ = some v) : b < w.heap.size := by
  rcases Nat.lt_or_ge b w.heap.size with hb | hb
  · exact hb
  · exact absurd h (by simp [World.cell?, Array.getElem?_eq_none hb])
theorem add_plain' (b o j : Nat) : (⟨b, o, none⟩ : Addr).add j = ⟨b, o + j, none⟩ := by unfold Addr.add; split <;> simp_all
theorem cellsDeed : Try.prog.cellsOf 48 = 7 := by kernel_rfl
theorem cellsPatch : Try.prog.cellsOf 38 = 3 := by kernel_rfl
theorem cellsInt : Try.prog.cellsOf 3 = 1 := by kernel_rfl
theorem cellsStr : Try.prog.cellsOf 9 = 1 := by kernel_rfl
theorem cellsInts : Try.prog.cellsOf 31 = 1 := by kernel_rfl
def Dd.cs (d : Dd) : List Value := [.int .i64 d.k, .int .i64 d.n, .int .i64 d.m, .int .i64 d.p.b, .int .i64 d.p.o, .string d.p.s, .slice d.A d.l.length d.c]
def IsBytes (w : World) (a : Option Addr) (len cap : Nat) (l : List Int) : Prop := l.length = len ∧ len ≤ cap ∧ cap ≤ maxLen ∧ Pat.Bts w w.heap.size a l
def IsInts (w : World) (a : Option Addr) (len cap : Nat) (l : List Int) : Prop := l.length = len ∧ len ≤ cap ∧ cap ≤ maxLen ∧ Ints w w.heap.size a l ∧ ∀ x ∈ l, WfI x
def IsDeeds (w : World) (a : Option Addr) (len cap : Nat) (ds : List Dd) : Prop := ds.length = len ∧ len ≤ cap ∧ cap ≤ maxLen ∧ Deeds w a ds
section
variable {H' : Type} {enc : TypeId × Value → H'} {w : World} {base : Nat} {spare : Nat → Bool} {held : Bool}
theorem cells_nums {fuel : Nat} {cs : List Value} {x : DataW H' × List MemPlace} (h : DataW.trod enc Try.prog w base spare held fuel 31 cs = some x) :
    ∃ P l c, cs = [.slice P (l : List Int).length c] ∧ l.length ≤ c ∧ c ≤ maxLen ∧ (∀ y ∈ l, WfI y) ∧ Ints w w.heap.size P l := by
  rcases open_ints Try.underlying31 Try.underlying3 (by kernel_rfl) h with ⟨hcs, _⟩ | ⟨a, len, cap, zs, hcs, _, hl, hm, hz, _, hcell, hwz⟩
  · exact ⟨none, [], 0, hcs, Nat.le_refl _, Nat.zero_le _, (fun y hy => by cases hy), fun h => by simp at h⟩
  · have hzl : len ≤ zs.length := by rw [hz]; split <;> omega
    have hpl : (zs.take len).length = len := by rw [List.length_take]; omega
    refine ⟨some a, zs.take len, cap, by rw [hpl]; exact hcs, by omega, hm, fun y hy => bounds_i64 (hwz y (List.mem_of_mem_take hy)), fun hn => ?_⟩
    rw [hpl] at hn
    obtain ⟨b, off, spot⟩ := a
    have hc0 := hcell 0 (by omega)
    have hspot : spot = none := by simpa [Addr.add] using World.cell?_spot hc0
    subst hspot
    refine ⟨b, off, rfl, lt_of_cell (by simpa [Addr.add] using hc0), fun j hj => ?_⟩
    rw [hpl] at hj
    have hcj := hcell j (by omega)
    rw [add_plain'] at hcj
    rw [hcj, inn_lt (by omega), List.getElem_take, List.getD_eq_getElem?_getD, List.getElem?_eq_getElem (by omega)]
    rfl
set_option maxRecDepth 100000 in
theorem cells_patch {fuel : Nat} {cs : List Value} {x : DataW H' × List MemPlace} (h : DataW.trod enc Try.prog w base spare held fuel 38 cs = some x) : ∃ p : Pt, cs = p.cs ∧ p.ok := by
  obtain ⟨y0, y1, y2, n, _, hl, h0, h1, h2⟩ := Deep.trod_struct3 Try.underlying38 h
  rw [cellsPatch] at hl
  obtain ⟨c0, c1, c2, rfl⟩ : ∃ a b c, cs = [a, b, c] := by
    match cs, hl with
    | [a, b, c], _ => exact ⟨a, b, c, rfl⟩
  simp only [cellsInt, cellsStr] at h0 h1 h2
  obtain ⟨b, e0, _, wb⟩ := DataW.trod_int Try.underlying3 h0
  obtain ⟨o, e1, _, wo⟩ := DataW.trod_int Try.underlying3 h1
  obtain ⟨s, e2, _, ws⟩ := DataW.trod_string Try.underlying9 h2
  simp at e0 e1 e2
  subst e0 e1 e2
  exact ⟨⟨b, o, s⟩, rfl, bounds_i64 wb, bounds_i64 wo, ws⟩
theorem open_patch {v : Value} {d : DataW H'} {ps : List MemPlace} (hv : ∃ cs, v = .agg cs) (h : DataW.Trod enc Try.prog w base spare held 38 v d ps) : ∃ p : Pt, v = p.v ∧ p.ok := by
  obtain ⟨cs, rfl⟩ := hv
  obtain ⟨fuel, hf⟩ := h
  obtain ⟨p, e, hp⟩ := cells_patch hf
  refine ⟨p, ?_, hp⟩
  simp only [Value.cells] at e
  have : cs = p.cs.toArray := by rw [← e]
  rw [this]
  rfl
set_option maxRecDepth 100000 in
theorem cells_deed {fuel : Nat} {cs : List Value} {x : DataW H' × List MemPlace} (h : DataW.trod enc Try.prog w base spare held fuel 48 cs = some x) : ∃ d : Dd, cs = d.cs ∧ d.ok w w.heap.size := by
  obtain ⟨xs, n, _, _, hl, hxl, hf⟩ := DataW.trod_struct Try.underlying48 h
  rw [cellsDeed] at hl
  have hx5 : xs.length = 5 := by simpa using hxl
  obtain ⟨c0, c1, c2, c3, c4, c5, c6, rfl⟩ : ∃ a b c d e f g, cs = [a, b, c, d, e, f, g] := by
    match cs, hl with
    | [a, b, c, d, e, f, g], _ => exact ⟨a, b, c, d, e, f, g, rfl⟩
  obtain ⟨y0, y1, y2, y3, y4, rfl⟩ : ∃ a b c d e, xs = [a, b, c, d, e] := by
    match xs, hx5 with
    | [a, b, c, d, e], _ => exact ⟨a, b, c, d, e, rfl⟩
  have h0 := hf 0 _ rfl
  have h1 := hf 1 _ rfl
  have h2 := hf 2 _ rfl
  have h3 := hf 3 _ rfl
  have h4 := hf 4 _ rfl
  change DataW.trod enc Try.prog w base spare held n 3 (([c0, c1, c2, c3, c4, c5, c6].drop 0).take (Try.prog.cellsOf 3)) = some y0 at h0
  change DataW.trod enc Try.prog w base spare held n 3 (([c0, c1, c2, c3, c4, c5, c6].drop 1).take (Try.prog.cellsOf 3)) = some y1 at h1
  change DataW.trod enc Try.prog w base spare held n 3 (([c0, c1, c2, c3, c4, c5, c6].drop 2).take (Try.prog.cellsOf 3)) = some y2 at h2
  change DataW.trod enc Try.prog w base spare held n 38 (([c0, c1, c2, c3, c4, c5, c6].drop 3).take (Try.prog.cellsOf 38)) = some y3 at h3
  change DataW.trod enc Try.prog w base spare held n 31 (([c0, c1, c2, c3, c4, c5, c6].drop 6).take (Try.prog.cellsOf 31)) = some y4 at h4
  rw [cellsInt] at h0 h1 h2
  rw [cellsPatch] at h3
  rw [cellsInts] at h4
  obtain ⟨k, e0, _, w0⟩ := DataW.trod_int Try.underlying3 h0
  obtain ⟨i, e1, _, w1⟩ := DataW.trod_int Try.underlying3 h1
  obtain ⟨m, e2, _, w2⟩ := DataW.trod_int Try.underlying3 h2
  obtain ⟨p, e3, hp⟩ := cells_patch h3
  obtain ⟨A, l, c, e4, hc1, hc2, hw, hi⟩ := cells_nums h4
  simp at e0 e1 e2 e4
  simp [Pat.Pt.cs] at e3
  obtain ⟨rfl, rfl, rfl⟩ := e3
  subst e0 e1 e2 e4
  exact ⟨⟨k, i, m, p, A, l, c⟩, rfl, hp, hc1, hc2, hi, hw⟩
theorem open_deed {v : Value} {d : DataW H'} {ps : List MemPlace} (hv : ∃ cs, v = .agg cs) (h : DataW.Trod enc Try.prog w base spare held 48 v d ps) : ∃ d : Dd, v = d.v ∧ d.ok w w.heap.size := by
  obtain ⟨cs, rfl⟩ := hv
  obtain ⟨fuel, hf⟩ := h
  obtain ⟨p, e, hp⟩ := cells_deed hf
  refine ⟨p, ?_, hp⟩
  simp only [Value.cells] at e
  have : cs = p.cs.toArray := by rw [← e]
  rw [this]
  rfl
theorem open_deeds {a : Option Addr} {len cap : Nat} {d : DataW H'} {pl : List MemPlace} (h : DataW.Trod enc Try.prog w base spare held 23 (.slice a len cap) d pl) : ∃ ds, IsDeeds w a len cap ds := by
  obtain ⟨fuel, hf⟩ := h
  rcases Deep.open_slice Try.underlying23 hf with ⟨e, _⟩ | ⟨x, l, c, m, n, DD, Pl, e, _, hl, hm, hmm, _, hx⟩
  · simp [Value.cells] at e
    obtain ⟨rfl, rfl, rfl⟩ := e
    exact ⟨[], rfl, Nat.le_refl _, Nat.zero_le _, fun h => absurd h (by simp)⟩
  · simp [Value.cells] at e
    obtain ⟨rfl, rfl, rfl⟩ := e
    rw [cellsDeed] at hx
    have hlm : len ≤ m := by rw [hmm]; split <;> omega
    have hg : ∀ i, i < len → ∃ p : Dd, p.ok w w.heap.size ∧ ∀ j, j < 7 → w.cell? ((x.add (i * 7)).add j) = p.cs[j]? := fun i hi => by
      obtain ⟨cs, h1, h2⟩ := hx i (by omega)
      obtain ⟨p, rfl, hp⟩ := cells_deed h2
      exact ⟨p, hp, (World.cells?_some h1).2.2⟩
    obtain ⟨f, hf⟩ : ∃ f : Nat → Dd, ∀ i, i < len → (f i).ok w w.heap.size ∧ ∀ j, j < 7 → w.cell? ((x.add (i * 7)).add j) = (f i).cs[j]? := by
      classical
      exact ⟨fun i => if h : i < len then (hg i h).choose else ⟨0, 0, 0, Pat.zeroP, none, [], 0⟩, fun i hi => by simp only [dif_pos hi]; exact (hg i hi).choose_spec⟩
    have hpn : ∀ i, i < len → ddn ((List.range len).map f) i = f i := fun i hi => by
      rw [ddn_lt (by simpa using hi)]; simp
    refine ⟨(List.range len).map f, by simp, hl, hm, fun hn => ?_⟩
    have hn' : 0 < len := by simpa using hn
    obtain ⟨b, off, spot⟩ := x
    have h0 := (hf 0 hn').2 0 (by omega)
    have hspot : spot = none := by
      have : w.cell? ⟨b, off, spot⟩ = some (.int .i64 (f 0).k) := by simpa [Addr.add, Dd.cs] using h0
      exact World.cell?_spot this
    subst hspot
    refine ⟨b, off, rfl, lt_of_cell (v := .int .i64 (f 0).k) (by simpa [Addr.add, Dd.cs] using h0), fun j hj => ?_⟩
    have hj' : j < len := by simpa using hj
    rw [hpn j hj']
    have a0 := (hf j hj').2 0 (by omega)
    have a1 := (hf j hj').2 1 (by omega)
    have a2 := (hf j hj').2 2 (by omega)
    have a3 := (hf j hj').2 3 (by omega)
    have a4 := (hf j hj').2 4 (by omega)
    have a5 := (hf j hj').2 5 (by omega)
    have a6 := (hf j hj').2 6 (by omega)
    rw [add_plain', add_plain'] at a0 a1 a2 a3 a4 a5 a6
    exact ⟨⟨by simpa [Dd.cs] using a0, by simpa [Dd.cs] using a1, by simpa [Dd.cs] using a2, by simpa [Dd.cs] using a3, by simpa [Dd.cs] using a4, by simpa [Dd.cs] using a5, by simpa [Dd.cs] using a6⟩, (hf j hj').1⟩
theorem open_bytes {a : Option Addr} {len cap : Nat} {d : DataW H'} {pl : List MemPlace} (h : DataW.Trod enc Try.prog w base spare held 22 (.slice a len cap) d pl) : ∃ l, IsBytes w a len cap l := by
  obtain ⟨fuel, hf⟩ := h
  rcases open_ints Try.underlying22 Try.underlying5 (by kernel_rfl) hf with ⟨hcs, _⟩ | ⟨x, l, c, zs, hcs, _, hl, hm, hz, _, hcell, hwz⟩
  · simp [Value.cells] at hcs
    obtain ⟨rfl, rfl, rfl⟩ := hcs
    exact ⟨[], rfl, Nat.le_refl _, Nat.zero_le _, (fun x hx => by cases hx), fun h => by simp at h⟩
  · simp [Value.cells] at hcs
    obtain ⟨rfl, rfl, rfl⟩ := hcs
    have hzl : len ≤ zs.length := by rw [hz]; split <;> omega
    have hpl : (zs.take len).length = len := by rw [List.length_take]; omega
    refine ⟨zs.take len, hpl, hl, hm, fun y hy => bounds_u8 (hwz y (List.mem_of_mem_take hy)), fun hn => ?_⟩
    rw [hpl] at hn
    obtain ⟨b, off, spot⟩ := x
    have hc0 := hcell 0 (by omega)
    have hspot : spot = none := by simpa [Addr.add] using World.cell?_spot hc0
    subst hspot
    refine ⟨b, off, rfl, lt_of_cell (by simpa [Addr.add] using hc0), fun j hj => ?_⟩
    rw [hpl] at hj
    have hcj := hcell j (by omega)
    rw [add_plain'] at hcj
    rw [hcj, Pat.nth_lt (by omega), List.getElem_take, List.getD_eq_getElem?_getD, List.getElem?_eq_getElem (by omega)]
    rfl
theorem open_nums {a : Option Addr} {len cap : Nat} {d : DataW H'} {pl : List MemPlace} (h : DataW.Trod enc Try.prog w base spare held 31 (.slice a len cap) d pl) : ∃ l, IsInts w a len cap l := by
  obtain ⟨fuel, hf⟩ := h
  obtain ⟨P, l, c, e, h1, h2, h3, h4⟩ := cells_nums hf
  simp [Value.cells] at e
  obtain ⟨rfl, rfl, rfl⟩ := e
  exact ⟨l, rfl, h1, h2, h4, h3⟩
end
end Go.Proofs.Ytibkipdadpidnaa
