/- The document's own cache: Use. -/
import Derived.Test.YthibnnllecdpaaaT
import Derived.Deep.LoopGhost
namespace Go.Proofs.Ythibnnllecdpaaa
open Go.RowKit

theorem heap_alloc_old' (w : World) (o : Obj) (i : Nat) (h : i < w.heap.size) : (w.alloc o).heap[i]? = w.heap[i]? := heap_alloc_old w o h
theorem own_made (W : World) {N K : Nat} (hN : W.heap.size = N) (hK : K ≤ W.heap.size) : (W.alloc (.cells #[] 102)).drew.ownsRow K 102 4 (.slice (some ⟨N, 0, none⟩) 0 0) 0 [] := by
  subst hN
  exact World.ownsRow_made W #[] 0 hK (by simp) (by simp)
theorem src_at {w : World} {b : Nat} {cs : Array Value} {t : TypeId} (hh : w.heap[b]? = some (.cells cs t (0, 0))) : ∀ ad, some (⟨b, 0, none⟩ : Addr) = some ad → ∀ j u, cs.toList[j]? = some u → w.cell? (ad.add j) = some u := by
  intro ad e j u hu
  cases e
  exact World.news_of_block hh j u hu
theorem src_new (w : World) (cs : Array Value) {N : Nat} (hN : w.heap.size = N) : ∀ ad, some (⟨N, 0, none⟩ : Addr) = some ad → ∀ j u, cs.toList[j]? = some u → (w.alloc (.cells cs 102)).cell? (ad.add j) = some u := by
  subst hN
  exact src_at (heap_alloc_new w _)
theorem blk_up (n : Nat) : some (n + 1) ≠ (Value.slice (some ⟨n, 0, none⟩) 0 0).ownBlock := by
  intro e
  have e1 : some (n + 1) = some n := e
  injection e1 with e2
  omega
theorem blk_down (n : Nat) : some n ≠ (Value.slice (some ⟨n + 1, 0, none⟩) 0 0).ownBlock := by
  intro e
  have e1 : some n = some (n + 1) := e
  injection e1 with e2
  omega
section
variable (B g M : Nat) (v : Value) (l : List H) (x : Int) (w : World)
set_option maxRecDepth 100000 in
theorem ruse_range (hx : x < 0 ∨ 96 ≤ x) : Calls Try.prog 44 #[.pointer (some ⟨g, 0, none⟩), .int .i64 x] w fun e w' => e = .returned (.tuple #[.int .i64 (-1), .int .i64 2]) ∧ w = w' := by
  by_cases h : x < 0
  · go_enter Try.func44, Try.ntmps44
    go_wp2
    go_ret2
    exact ⟨rfl, rfl⟩
  · have h2 : 96 ≤ x := by omega
    go_enter Try.func44, Try.ntmps44
    go_wp2
    go_ret2
    exact ⟨rfl, rfl⟩
set_option maxRecDepth 100000 in
theorem ruse_has (hC : CacheAt 77 102 B w g v M l) (hl : l.length ≤ 1000) (hx : ¬ (x < 0 ∨ 96 ≤ x)) (hh : has l x = true) :
    Calls Try.prog 44 #[.pointer (some ⟨g, 0, none⟩), .int .i64 x] w fun e w' => e = .returned (.tuple #[.int .i64 (-1), .int .i64 0]) ∧ Went 77 102 B w g v M (modH l (idx l x) H.on) w' := by
  have HF := Lib.hid (rat_any B g v M l x w hC hl)
  rw [idxI_yes hh] at HF
  have HC := Lib.hid hC
  have hs := hC.slot
  have hg := hC.glt
  have hk := has_lt hh
  obtain ⟨b, cap, rfl, h1, h2, hb, hBb, c0, c1, c2, c3, cf⟩ := row_at hC.row hk
  have x0 : ¬ x < 0 := by omega
  have x1 : ¬ 96 ≤ x := by omega
  clear hC hh hx
  generalize idx l x = k at *
  have hk0 : (0 : Int) ≤ (k : Int) := by omega
  have hki : (k : Int) < (l.length : Int) := by omega
  have Hfin : Hid (Went 77 102 B w g (.slice (some ⟨b, 0, none⟩) l.length cap) M (modH l k H.on) (w.setCell ⟨b, k * 4 + 3, none⟩ (.bool true))) := by
    obtain ⟨r, kp⟩ := HC.out.stored rfl hk H.on 3 (.bool true) (fun _ => rfl) (by omega)
    exact .same r kp
  go_enter Try.func44, Try.ntmps44
  go_wp2_with (refine HF.out.mono ?_; rintro e w' ⟨rfl, rfl⟩)
  go_ret2
  exact ⟨rfl, Hfin.out⟩
set_option maxRecDepth 100000 in
set_option maxHeartbeats 2000000 in
theorem ruse_room (hC : CacheAt 77 102 B w g v M l) (hl : l.length ≤ 1000) (hx : ¬ (x < 0 ∨ 96 ≤ x)) (hh : has l x = false) (hlm : l.length < M) (hB : B ≤ w.heap.size) :
    Calls Try.prog 44 #[.pointer (some ⟨g, 0, none⟩), .int .i64 x] w fun e w' => e = .returned (.tuple #[.int .i64 (-1), .int .i64 0]) ∧ Went 77 102 B w g v M (l ++ [fresh x]) w' := by
  have HF := Lib.hid (rat_any B g v M l x w hC hl)
  rw [idxI_no hh] at HF
  have HC := Lib.hid hC
  have hs := hC.slot
  have hm := hC.most
  have hg := hC.glt
  obtain ⟨i0, hi0, hz0, hz1, hz2⟩ := info_parts info102
  obtain ⟨A, cap, rfl, h1, h2⟩ := hC.form
  have x0 : ¬ x < 0 := by omega
  have x1 : ¬ 96 ≤ x := by omega
  have hB0 : Below w.heap.size w (w.alloc (.cells #[] 102)) := (Below.refl _ _).alloc (Nat.le_refl _) _
  have Hown : Hid ((w.alloc (.cells #[] 102)).ownsRow w.heap.size 102 4 (.slice (some ⟨w.heap.size, 0, none⟩) 0 0) 0 []) := World.ownsRow_made w #[] 0 (Nat.le_refl _) (by simp) (by simp)
  have Hsrc := Lib.hid (row_src (HC.out.fresh hB0).row)
  have HB0 := Lib.hid hB0
  have Hlf := Lib.hid (length_flat l)
  have Hone := Lib.hid (flat_one l)
  have hlt : (l.length : Int) < (M : Int) := by omega
  have Hf1 := Lib.hid (fresh_one x)
  have Hll : Hid ((l ++ [fresh x]).length = l.length + 1) := by simp [Hid]
  have Hff : Hid (flat l ++ (fresh x).cs = flat (l ++ [fresh x])) := by unfold Hid; rw [flat_append]; simp [flat]
  clear hC hh hx hB0
  go_enter Try.func44, Try.ntmps44
  go_wp2_with (first
    | (go_at_call 55; refine HF.out.mono ?_; rintro e w' ⟨rfl, rfl⟩)
    | (refine wpList_append_src rfl (.tmp 35) (.tmp 39) 75 rfl w.heap.size 102 i0 zeroH 4 24 Try.underlying75 hi0 hz0 hz1 hz2 rfl (by decide) _ 0 [] rfl Hown.out A l.length cap (flat l) rfl Hlf.out Hsrc.out.1 Hsrc.out.2 Hone.out (by unfold maxLen; omega) (by omega) (by simp) l.length (by omega) ?_; intro A1 c1 w1 ho1 hg1 hor1; have hB1 := HB0.out.grown hg1 (by simp) (fun j e => by cases e; exact Nat.le_refl _); have hs1 := (HC.out.fresh hB1).slot; have hm1 := (HC.out.fresh hB1).most; have hf1 := (HC.out.fresh hB1).free 1; have hg1' := (HC.out.fresh hB1).glt; have HB1 := Lib.hid hB1; rw [List.nil_append] at ho1; have HO1 := Lib.hid ho1; clear ho1 hg1 hor1 hB1)
    | (refine wpList_append_src rfl (.tmp 51) (.tmp 53) 75 rfl w.heap.size 102 i0 zeroH 4 24 Try.underlying75 hi0 hz0 hz1 hz2 rfl (by decide) (.slice A1 l.length c1) l.length (flat l) rfl ((HO1.out.alloc _).alloc _) (some ⟨w1.heap.size + 1, 0, none⟩) 1 1 (fresh x).cs rfl rfl (src_new _ #[.int .i64 x, .int .i64 0, .bool false, .bool true] (by simp)) (fun e => by cases e) Hf1.out (by unfold maxLen; omega) (by omega) (by have := HB1.out.size; simp; omega) (l.length + 1) rfl ?_; intro A2 c2 w2 ho2 hg2 hor2; have hB2 := ((HB1.out.alloc HB1.out.size _).alloc (by have := HB1.out.size; simp; omega) _).grown hg2 (by have := HB1.out.size; simp; omega) (fun j e => (HO1.out.lt j e).1); rw [Hff.out] at ho2; obtain ⟨hs2, hf2, hE2⟩ := new_end HC.out hB2 ho2 Hll.out hB; have HE2 := Lib.hid hE2; clear ho2 hg2 hor2 hB2 hE2))
  go_ret2
  exact ⟨rfl, HE2.out⟩
end
end Go.Proofs.Ythibnnllecdpaaa
