/- What the engine tells by its own cells and by its disk: New, ask, Next, Size, Counts, Spoil, Crash. -/
import Derived.Test.YtkldiofleepkfaaHC
import Derived.OwnWalk
import Derived.Deep.RegionHeld3
set_option linter.unusedVariables false
set_option linter.unusedSimpArgs false
namespace Go.Proofs.Ytkldiofleepkfaa.Hd
open Go.RowKit
open Go.Maps (Keyed)
/-- an engine, and the blocks that its calls may change -/
def Eng (w : World) (g n : Nat) (S : Nat → Bk) (cc : Nat) (k jo id : Int) (l : List Hw) (sent : List Int) (F : Nat → Prop) : Prop := ∃ gd m Fd, HAt w g gd n S cc k jo id l sent m Fd ∧ F = footH g l m Fd
namespace Eng
variable {w w' : World} {g n cc cc' : Nat} {S : Nat → Bk} {k jo id : Int} {l : List Hw} {sent : List Int} {F G : Nat → Prop}
theorem lt (h : Eng w g n S cc k jo id l sent F) : ∀ b, F b → b < w.heap.size := by obtain ⟨gd, m, Fd, h, rfl⟩ := h; exact h.foot_lt
theorem nw (h : Eng w g n S cc k jo id l sent F) : NW w F := by obtain ⟨gd, m, Fd, h, rfl⟩ := h; exact h.foot_nw
theorem keep (h : Eng w g n S cc k jo id l sent F) (hk : Kept w w' G) (hd : ∀ b, F b → ¬ G b) (hG : NW w G) : Eng w' g n S cc k jo id l sent F := by
  obtain ⟨gd, m, Fd, h, rfl⟩ := h; exact ⟨gd, m, Fd, h.keep hk hd hG, rfl⟩
theorem fresh (h : Eng w g n S cc k jo id l sent F) (hb : Below w.heap.size w w') : Eng w' g n S cc k jo id l sent F := h.keep (G := fun _ => False) (Kept.fresh hb) (fun _ _ q => q) (NW.none w)
end Eng
theorem Code.monoH {w : World} {d n c c' : Nat} {S : Nat → Bk} {F : Nat → Prop} (h : Code w d n S c F) (hc : c ≤ c') : Code w d n S c' F := by
  obtain ⟨L, B, mb, k, D, V, A, C, h, rfl⟩ := h
  exact ⟨L, B, mb, k, D, V, A, C, ⟨h.disk, h.map, Nat.le_trans h.kc hc, h.keys, h.here, h.gone, h.row, h.ok, h.sec, h.bad, h.ver, fun j hj => Nat.le_trans (h.few j hj) hc, h.apart⟩, rfl⟩
theorem HAt.mono {w : World} {g gd n cc cc' : Nat} {S : Nat → Bk} {k jo id : Int} {l : List Hw} {sent : List Int} {m : Lay} {Fd : Nat → Prop} (h : HAt w g gd n S cc k jo id l sent m Fd) (hc : cc ≤ cc') : HAt w g gd n S cc' k jo id l sent m Fd :=
  { h with disk := Code.monoH h.disk hc, wmap := h.wmap.more hc, umap := h.umap.more hc }
theorem Eng.mono {w : World} {g n cc cc' : Nat} {S : Nat → Bk} {k jo id : Int} {l : List Hw} {sent : List Int} {F : Nat → Prop} (h : Eng w g n S cc k jo id l sent F) (hc : cc ≤ cc') : Eng w g n S cc' k jo id l sent F := by
  obtain ⟨gd, m, Fd, h, rfl⟩ := h; exact ⟨gd, m, Fd, h.mono hc, rfl⟩
/-- its disk has turned -/
theorem HAt.disked {w w' : World} {g gd n cc cc' : Nat} {S S' : Nat → Bk} {k jo id : Int} {l : List Hw} {sent : List Int} {m : Lay} {Fd Fd' : Nat → Prop} (h : HAt w g gd n S cc k jo id l sent m Fd) (hc : cc ≤ cc') (hk : Kept w w' Fd) (hf : ∀ b, Fd' b → Fd b ∨ w.heap.size ≤ b) (hd : Code w' gd n S' cc' Fd') : HAt w' g gd n S' cc' k jo id l sent m Fd' where
  head := by rw [hk.block g h.glt (Code.not_typeH h.disk h.head (by decide) (by decide))]; exact h.head
  disk := hd
  wmap := (h.wmap.keep hk h.gwd).more hc
  umap := (h.umap.keep hk h.gud).more hc
  ws := fun x hx => by rw [hk.block _ (Array.getElem?_eq_some_iff.1 (h.ws x hx)).1 (Code.not_typeH h.disk (h.ws x hx) (by decide) (by decide))]; exact h.ws x hx
  ahs := fun x hx => hk.row (h.ahs x hx) fun b hb q => by
    obtain ⟨cs, e⟩ := h.ah_own hx ((own_eq _ _ _).symm.trans hb)
    exact Code.not_typeH h.disk e (by decide) (by decide) q
  us := fun u hu => by rw [hk.block _ (Array.getElem?_eq_some_iff.1 (h.us u hu)).1 (Code.not_typeH h.disk (h.us u hu) (by decide) (by decide))]; exact h.us u hu
  ups := fun u hu => hk.row (h.ups u hu) fun b hb q => by
    obtain ⟨cs, e⟩ := h.row_typed hu ((own_eq _ _ _).symm.trans hb)
    exact Code.not_typeH h.disk e (by decide) (by decide) q
  ok := h.ok
  sok := h.sok
  right := h.right
  blk := h.blk
  lo := h.lo
  ah0 := h.ah0
  k0 := h.k0
  few := h.few
  maps := h.maps
  gwd := fun q => by rcases hf _ q with q | q; exact h.gwd q; have := h.wmap.lt; omega
  gud := fun q => by rcases hf _ q with q | q; exact h.gud q; have := h.umap.lt; omega
theorem HAt.of_disk {w w' : World} {g gd n cc cc' : Nat} {S S' : Nat → Bk} {k jo id : Int} {l : List Hw} {sent : List Int} {m : Lay} {Fd : Nat → Prop} (h : HAt w g gd n S cc k jo id l sent m Fd) (hc : cc ≤ cc') (hw : Went w w' Fd (Code w' gd n S' cc')) :
    Went w w' (footH g l m Fd) (Eng w' g n S' cc' k jo id l sent) := by
  obtain ⟨Fd', h1, h2, h3⟩ := hw
  refine ⟨footH g l m Fd', ⟨gd, m, Fd', h.disked hc h2 h3 h1, rfl⟩, h2.more (fun b q => .inl (.inr (.inr (.inr (.inr q))))), ?_⟩
  rintro b (q | q | q | q | q)
  · exact .inl (.inl q)
  · exact .inl (.inr (.inl q))
  · exact .inl (.inr (.inr (.inl q)))
  · exact .inl (.inr (.inr (.inr (.inl q))))
  · exact (h3 b q).imp (fun q => .inr (.inr (.inr (.inr q)))) (fun q => q)
section
variable {w : World} {g n cc : Nat} {S : Nat → Bk} {k jo id : Int} {l : List Hw} {sent : List Int} {F : Nat → Prop}
theorem Code.okSH {w : World} {g n c : Nat} {S : Nat → Bk} {F : Nat → Prop} (h : Code w g n S c F) {i : Nat} (hi : i < n) : OkS (S i).s := by
  obtain ⟨L, B, mb, k, D, V, A, C, h, rfl⟩ := h
  rw [← h.sec i hi]
  exact ⟨length_sec h.disk.lenL (by have := h.n96; omega), sec_all h.disk.allL i⟩
set_option maxRecDepth 100000 in
set_option maxHeartbeats 1000000 in
theorem hask (h : Eng w g n S cc k jo id l sent F) (i : Int) : Calls Try.prog 13 #[.pointer (some ⟨g, 0, none⟩), .int .i64 i] w fun e w' => e = .returned (.int .i64 (if 0 ≤ i ∧ i < n then 0 else 2)) ∧ Below w.heap.size w w' := by
  obtain ⟨gd, m, Fd, h, rfl⟩ := h
  have e0 := h.c0
  have hge := h.glt
  have core : ∀ (s : List Int) (r : Int), s.length = 32 → (Calls Try.prog 28 #[.pointer (some ⟨gd, 0, none⟩), .int .i64 i] w fun e w' => e = .returned (.tuple #[secV s, .int .i64 r]) ∧ Below w.heap.size w w') →
      Calls Try.prog 13 #[.pointer (some ⟨g, 0, none⟩), .int .i64 i] w fun e w' => e = .returned (.int .i64 r) ∧ Below w.heap.size w w' := by
    intro s r hsl hC
    have HL := Lib.hid hC
    have hsz2 : Hid ((Try.prog.info? 47).map (·.size) = some (bytesV s).toArray.size) := by unfold Hid; rw [List.size_toArray, length_bytesV, hsl]; exact size36
    have hone : Hid ((bytesV s).toArray.all (·.oneCell') = true) := all_oneCell_toArray (bytesV_one _)
    have hold : Hid (32 = (bytesV s).toArray.size) := by unfold Hid; rw [List.size_toArray, length_bytesV, hsl]
    unfold secV at HL
    obtain ⟨R0, hR0⟩ : ∃ R0, R0 = (bytesV s).toArray := ⟨_, rfl⟩
    rw [← hR0] at HL hsz2 hone hold
    clear hC hsl hR0 h
    go_enter Try.func13, Try.ntmps13
    go_wp2_with (first
      | (go_at_call 28; refine HL.out.mono ?_; rintro e w1 ⟨rfl, hb1⟩; have HB1 := Lib.hid hb1; clear hb1)
      | (refine wpList_store_row rfl 47 (.tmp 5) (.tmp 16) rfl w1.heap.size R0 rfl rfl 47 _ (heap_alloc_new w1 _) hsz2.out hold.out hone.out ?_; generalize hW : World.setRow (w1.alloc (Obj.cells _ 47)) _ R0 = w2; have HB2 : Hid (Below w.heap.size w w2) := (by rw [← hW]; exact HB1.out.trans ((below_setRow (below_alloc1 w1 _) (Nat.le_refl _) _).mono HB1.out.size)); clear hW))
    go_ret
    exact ⟨rfl, HB2.out⟩
  by_cases hi : 0 ≤ i ∧ i < n
  · rw [if_pos hi]
    obtain ⟨j, rfl⟩ : ∃ j : Nat, i = (j : Int) := ⟨i.toNat, by omega⟩
    exact core _ 0 (Code.okSH h.disk (by omega)).1 (clast h.disk (by omega))
  · rw [if_neg hi]
    exact core _ 2 noSec_len (clast_no h.disk i hi)
theorem hsize (h : Eng w g n S cc k jo id l sent F) : Calls Try.prog 36 #[.pointer (some ⟨g, 0, none⟩)] w fun e w' => e = .returned (.int .i64 n) ∧ w = w' := by
  obtain ⟨gd, m, Fd, h, rfl⟩ := h
  have e0 := h.c0
  have HS := Lib.hid (csize h.disk)
  have hge := h.glt
  clear h
  go_enter Try.func36, Try.ntmps36
  go_wp2_with (refine HS.out.mono ?_; rintro e w' ⟨rfl, rfl⟩)
  go_ret
  exact ⟨rfl, rfl⟩
theorem hcounts (h : Eng w g n S cc k jo id l sent F) : Calls Try.prog 24 #[.pointer (some ⟨g, 0, none⟩)] w fun e w' => e = .returned (.tuple #[.int .i64 k, .int .i64 jo, .int .i64 id]) ∧ Below w.heap.size w w' := by
  obtain ⟨gd, m, Fd, h, rfl⟩ := h
  have e1 := h.c1
  have e2 := h.c2
  have e3 := h.c3
  have hge := h.glt
  clear h
  go_enter Try.func24, Try.ntmps24
  go_wp2
  go_region_held3 (fun V => V.cell? ⟨g, 1, none⟩ = some (.int .i64 k) ∧ V.cell? ⟨g, 2, none⟩ = some (.int .i64 jo) ∧ V.cell? ⟨g, 3, none⟩ = some (.int .i64 id)) (exact ⟨e1, e2, e3⟩) (fail)
  go_wp2
  go_ret3
  exact ⟨rfl, (Below.refl _ _).drew⟩
end
end Go.Proofs.Ytkldiofleepkfaa.Hd
