/- Flush of an engine. -/
import Derived.Test.YtegacggkdjgdiaaEJ
set_option linter.unusedVariables false
set_option linter.unusedSimpArgs false
namespace Go.Proofs.Ytegacggkdjgdiaa
open Go.RowKit

theorem HeadAt.set2 {w : World} {ge gd : Nat} {k : Int} {v : Value} (h : HeadAt w ge gd k v) (v' : Value) : HeadAt (w.setCell ⟨ge, 2, none⟩ v') ge gd k v' ∧ Kept w (w.setCell ⟨ge, 2, none⟩ v') (fun b => b = ge) := by
  refine ⟨⟨?_⟩, ⟨rfl, rfl, rfl, by simp, fun k _ hn => heap_setCell_other w ⟨ge, 2, none⟩ k v' hn⟩⟩
  have := heap_setCell_same w ge 2 _ 74 v' h.head
  simpa using this
theorem HeadAt.set1 {w : World} {ge gd : Nat} {k : Int} {v : Value} (h : HeadAt w ge gd k v) (k' : Int) : HeadAt (w.setCell ⟨ge, 1, none⟩ (.int .i64 k')) ge gd k' v ∧ Kept w (w.setCell ⟨ge, 1, none⟩ (.int .i64 k')) (fun b => b = ge) := by
  refine ⟨⟨?_⟩, ⟨rfl, rfl, rfl, by simp, fun k _ hn => heap_setCell_other w ⟨ge, 1, none⟩ k _ hn⟩⟩
  have := heap_setCell_same w ge 1 _ 74 (.int .i64 k') h.head
  simpa using this
theorem leftL_sub (l : List Wr) : (leftL l).Sublist l := List.filter_sublist
set_option maxRecDepth 100000 in
set_option maxHeartbeats 1000000 in
theorem eflush {w : World} {ge n cc : Nat} {S : Nat → Bk} {k : Int} {l : List Wr} {F : Nat → Prop} (h : Eng w ge n S cc k l F) (hc : cc < 100000) :
    Calls Try.prog 13 #[.pointer (some ⟨ge, 0, none⟩)] w fun e w' => e = .returned (.int .i64 0) ∧ Went w w' F (Eng w' ge n (fun j => (S j).flushed) cc k (leftL l)) := by
  obtain ⟨gd, A, c, Fd, h, rfl⟩ := h
  have e0 := h.head.c0
  have HF := Lib.hid (cflush h.disk hc)
  have HH := Lib.hid h
  clear h
  go_enter Try.func13, Try.ntmps13
  go_wp2_with (first
    | (go_at_call 32; refine HF.out.mono ?_; rintro e w1 ⟨rfl, F1, hd1, hk1, hf1⟩; have HE1 := Lib.hid (HH.out.disked hk1 hd1); have HK1 := Lib.hid hk1; have HF1 := Lib.hid hf1; have f2 := HE1.out.head.c2; have fg := HE1.out.head.lt; clear hd1 hk1 hf1)
    | (go_at_call 44; refine (deletef_any 0 A c l w1 HE1.out.row (by have := HE1.out.few; omega)).mono ?_; rintro e w2 ⟨rfl, hr2, hk2⟩; have HR2 := Lib.hid hr2; have HK2 := Lib.hid hk2; have hh2 := HE1.out.head.keep hk2 HE1.out.row_ge; have HH2 := Lib.hid hh2; have g2 := hh2.c2; have gf := hh2.free 2; have gl := hh2.lt; clear hr2 hk2 hh2))
  go_ret
  obtain ⟨h3, k3⟩ := HH2.out.set2 (.slice A (leftL l).length c)
  generalize w2.setCell ⟨ge, 2, none⟩ (.slice A (leftL l).length c) = w3 at h3 k3 ⊢
  have K : Kept w1 w3 (fun b => own A = some b ∨ b = ge) := (HK2.out.more (fun b q => .inl (.inl q))).trans k3 (fun b q => .inl (.inr q))
  have hsub := leftL_sub l
  have hE := HE1.out.rowed K h3 (HR2.out.keep k3 HH2.out.ni (fun b q1 q2 => by subst q2; exact HE1.out.row_ge q1)) (HE1.out.asc.sub hsub) (HE1.out.right.sub hsub) (fun x hx => HE1.out.blk x (hsub.subset hx)) (fun x hx => HE1.out.lo x (hsub.subset hx)) (Nat.le_trans hsub.length_le HE1.out.few)
  refine ⟨rfl, footE ge A F1, ⟨gd, A, c, F1, hE, rfl⟩, (HK1.out.more (fun b q => .inl (.inr (.inr q)))).trans K (fun b q => .inl (by rcases q with q | q; exact .inr (.inl q); exact .inl q)), ?_⟩
  rintro b (q | q | q)
  · exact .inl (.inl q)
  · exact .inl (.inr (.inl q))
  · exact (HF1.out b q).imp (fun q => .inr (.inr q)) id
end Go.Proofs.Ytegacggkdjgdiaa
