/- Whatever deeds come in, CacheForks returns true, and they read afterwards as before. No condition. Here: the walk of the law's text. -/
import Derived.Test.YthibnnllecdpaaaO
namespace Go.Proofs.Ythibnnllecdpaaa
open Go.RowKit
/-- two pairs of caches in blocks of their own -/
def Apart (gc : Nat) (vc : Value) (gr : Nat) (vr : Value) (gf : Nat) (vf : Value) (gg : Nat) (vg : Value) : Prop := ∀ k, AtTwo gc vc gr vr k → ¬ AtTwo gf vf gg vg k
theorem Two.beside {B : Nat} {w w' : World} {gc gr gf gg M : Nat} {vc vr vf vg : Value} {l : List H} (h : Two B w gc vc gr vr M l) (hk : Kept w w' (AtTwo gf vf gg vg)) (hd : Apart gc vc gr vr gf vf gg vg) : Two B w' gc vc gr vr M l :=
  ⟨h.c.beside hk (fun k q => hd k (.inl q)), h.r.beside hk (fun k q => hd k (.inr q)), h.len, h.hM, Nat.le_trans h.base hk.size⟩
theorem Two.lt {B : Nat} {w : World} {gc gr M : Nat} {vc vr : Value} {l : List H} (h : Two B w gc vc gr vr M l) {k : Nat} (hk : AtTwo gc vc gr vr k) : k < w.heap.size := by
  rcases hk with (rfl | q) | (rfl | q)
  · exact h.c.glt
  · exact (h.c.row.lt k q).2
  · exact h.r.glt
  · exact (h.r.row.lt k q).2
set_option maxRecDepth 100000 in
set_option maxHeartbeats 2000000 in
theorem CacheForks.walk (a0 : Option Addr) (len0 cap0 : Nat) (ds : List D) (a1 : Option Addr) (len1 cap1 : Nat) (es : List D) (W : World) (h0 : IsDeeds W a0 len0 cap0 ds) (h1 : IsDeeds W a1 len1 cap1 es) :
    Calls Try.prog 8 #[.slice a0 len0 cap0, .slice a1 len1 cap1] W fun e W' => e = .returned (.bool true) ∧ Below W.heap.size W W' := by
  obtain ⟨d1, d2, d3, d4⟩ := h0
  obtain ⟨rfl, e2, e3, e4⟩ := h1
  have HP := Lib.hid (play_any 3 4 a0 len0 cap0 ds W (by omega) (by omega) (by decide) d1 d2 d3 d4)
  have HE := Lib.hid e4
  unfold maxLen at e3
  clear d1 d2 d3 d4 e4
  go_enter Try.func8, Try.ntmps8
  go_wp2_with fail
  refine HP.out.mono ?_
  rintro e w1 ⟨gc, vc, gr, vr, l, rfl, hT, hf, hnd, hB⟩
  have HT := Lib.hid hT
  have HB := Lib.hid hB
  have Hf := Lib.hid hf
  have hl1 : l.length ≤ 1000 := by have := hT.len; have := hT.hM; omega
  clear hT hf hnd hB
  go_wp2_with (first
    | (go_at_call 12; refine (live_any _).mono ?_; rintro e w2 ⟨rfl, hb2⟩; have HT2 := Lib.hid (HT.out.fresh hb2); have HB2 := Lib.hid (HB.out.trans (hb2.mono HB.out.size)); clear hb2)
    | (go_at_call 23; refine (fork_any _ gc vc _ l _ HT2.out.c hl1).mono ?_; rintro e w3 ⟨gf, vf, rfl, hcf, hb3⟩; have HT3 := Lib.hid (HT2.out.fresh hb3); have HB3 := Lib.hid (HB2.out.trans (hb3.mono HB2.out.size)); have HCF := Lib.hid hcf; have HZ3 := Lib.hid hb3.size; clear hb3 hcf)
    | (go_at_call 24; refine (rfork_any _ gr vr _ l _ HT3.out.r hl1).mono ?_; rintro e w4 ⟨gg, vg, rfl, hcg, hb4⟩; have HT4 := Lib.hid (HT3.out.fresh hb4); have HB4 := Lib.hid (HB3.out.trans (hb4.mono HB3.out.size)); have HCF4 := Lib.hid (HCF.out.fresh hb4); have HCG := Lib.hid hcg; have HZ4 := Lib.hid hb4.size; clear hb4 hcg))
  have HF4 : Hid (Two w2.heap.size w4 gf vf gg vg 4 l) := ⟨HCF4.out, ⟨HCG.out.head, own_base HCG.out.row HZ3.out, HCG.out.ne, Nat.le_trans HZ3.out HCG.out.lo⟩, HT.out.len, HT.out.hM, Nat.le_trans HZ3.out HZ4.out⟩
  have HA4 : Hid (Apart gc vc gr vr gf vf gg vg) := fun k hk hk' => by
    have h1 := HT2.out.lt hk
    have h2 := HF4.out.low k hk'
    omega
  go_loopw [10] (fun i wr => ∃ (k : Nat) (vf' vg' : Value) (l' : List H), k ≤ es.length ∧ k ≤ 20 ∧ i = .int .i64 k ∧ Two w2.heap.size wr gf vf' gg vg' 4 l' ∧ Few (80 + k) l' ∧ Two W.heap.size wr gc vc gr vr 4 l ∧ Apart gc vc gr vr gf vf' gg vg' ∧ Below W.heap.size W wr) (fun i _ => es.length - (intOf i).toNat)
  case atStart => exact ⟨0, vf, vg, l, Nat.zero_le _, Nat.zero_le _, rfl, HF4.out, Hf.out.more (by omega), HT4.out, HA4.out, HB4.out⟩
  case round =>
    obtain ⟨k, vf', vg', l', hk, hk20, rfl, hF, hfw, hT, hA, hB⟩ := hrel
    rename World => wr
    have HF := Lib.hid hF
    have Hfw := Lib.hid hfw
    have HTk := Lib.hid hT
    have HAk := Lib.hid hA
    have HBk := Lib.hid hB
    clear hF hfw hT hA hB
    have hk0 : (0 : Int) ≤ (k : Int) := by omega
    by_cases hlt : k < es.length ∧ k < 20
    · obtain ⟨hlt, h20⟩ := hlt
      have hlti : (k : Int) < (es.length : Int) := by omega
      have h20i : (k : Int) < 20 := by omega
      obtain ⟨b, off, rfl, hb, hc⟩ := (HE.out.next HBk.out) (by omega)
      obtain ⟨c0, c1, c2⟩ := hc k hlt
      generalize dn es k = d at c0 c1 c2
      obtain ⟨dk, db, dx⟩ := d
      have HDo := Lib.hid (do_any w2.heap.size gf gg 4 vf' vg' l' wr dk db dx HF.out (Hfw.out.more (by omega)))
      clear hc
      go_wp2_with ((with_reducible refine HDo.out.mono ?_); rintro e w5 ⟨rfl, hw5⟩; have HW5 := Lib.hid hw5; clear hw5)
      go_roundw
      case rel =>
        have hbl := HW5.out.below HF.out
        obtain ⟨vf2, vg2, t5, k5, f1, f2⟩ := HW5.out
        refine ⟨k + 1, vf2, vg2, _, by omega, by omega, by go_num, t5, by have := few_doL (M := 4) Hfw.out (by omega) dk db dx; exact this.more (by omega), HTk.out.beside k5 HAk.out, fun j hj hj' => ?_, HBk.out.trans (hbl.mono HB2.out.size)⟩
        have hjlt := HTk.out.lt hj
        rcases hj' with (rfl | q) | (rfl | q)
        · exact HAk.out _ hj (.inl (.inl rfl))
        · rcases f1 j q with q | q
          · exact HAk.out _ hj (.inl (.inr q))
          · omega
        · exact HAk.out _ hj (.inr (.inl rfl))
        · rcases f2 j q with q | q
          · exact HAk.out _ hj (.inr (.inr q))
          · omega
      case measure => simp [intOf]; omega
    · have ht : ¬ (k : Int) < (es.length : Int) ∨ ((k : Int) < (es.length : Int) ∧ k = 20) := by omega
      rcases ht with ht | ⟨ht, rfl⟩
      all_goals
        clear hlt
        go_wp2_with (first
          | (go_at_call 13; (with_reducible refine (same_any _ gc gr 4 vc vr l _ HTk.out).mono ?_); rintro e w6 ⟨rfl, hb6⟩; have HF6 := Lib.hid (HF.out.fresh hb6); have HB6 := Lib.hid (HBk.out.trans (hb6.mono HBk.out.size)); clear hb6)
          | (go_at_call 13; (with_reducible refine (same_any _ gf gg 4 vf' vg' l' _ HF6.out).mono ?_); rintro e w7 ⟨rfl, hb7⟩; have HB7 := Lib.hid (HB6.out.trans (hb7.mono HB6.out.size)); clear hb7))
        go_ret
        exact ⟨rfl, HB7.out⟩
end Go.Proofs.Ythibnnllecdpaaa
