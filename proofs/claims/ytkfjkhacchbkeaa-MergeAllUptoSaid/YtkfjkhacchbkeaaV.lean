/- Contract of live. -/
import Derived.Test.YtkfjkhacchbkeaaU
namespace Go.Proofs.Ytkfjkhacchbkeaa
set_option linter.unusedVariables false
set_option linter.unusedSimpArgs false
open Go.RowKit

def pA1 : Pat.Pt := ⟨1, 0, ⟨#[97]⟩⟩
def pB2 : Pat.Pt := ⟨2, 0, ⟨#[98]⟩⟩
def L3 : List It := [⟨pA1, []⟩, ⟨pA1, [0]⟩, ⟨pB2, []⟩]
theorem right3 : rightL L3 = true := by decide +kernel
theorem groups3 : groupsL L3 = [[0, 1], [2]] := by decide +kernel
theorem deps3 : (mdepsL L3).length = 2 := by rw [length_mdepsL, groups3]; rfl
theorem expand3 : (expandL L3 [0]).length = 2 := by decide +kernel
theorem small3 : Small L3 := fun k hk => by
  have h : k = 0 ∨ k = 1 ∨ k = 2 := by simp [L3] at hk; omega
  have ok : ∀ p : Pat.Pt, p = pA1 ∨ p = pB2 → p.ok := fun p h => by
    rcases h with rfl | rfl <;> exact ⟨by decide, by decide, by decide⟩
  rcases h with rfl | rfl | rfl
  · exact ⟨ok _ (.inl rfl), by decide⟩
  · exact ⟨ok _ (.inl rfl), by decide⟩
  · exact ⟨ok _ (.inr rfl), by decide⟩

/-- the world in which live's items lie -/
def w3 (w : World) : World := ((w.alloc (.cells #[.int .i64 1, .int .i64 0, .string ⟨#[97]⟩] 44)).alloc (.cells #[.int .i64 0] 3)).alloc
  (.cells #[.int .i64 1, .int .i64 0, .string ⟨#[97]⟩, .slice none 0 0, .int .i64 1, .int .i64 0, .string ⟨#[97]⟩, .slice (some ⟨w.heap.size + 1, 0, none⟩) 1 1, .int .i64 2, .int .i64 0, .string ⟨#[98]⟩, .slice none 0 0] 46)
theorem below3 (w : World) : Below w.heap.size w (w3 w) := (((Below.refl _ w).alloc (Nat.le_refl _) _).alloc (by simp) _).alloc (by simp; omega) _
theorem items3 (w : World) : Items (w3 w) (w3 w).heap.size (some ⟨w.heap.size + 1 + 1, 0, none⟩) L3 := by
  intro _
  have hb := BlkIs.new ((w.alloc (.cells #[.int .i64 1, .int .i64 0, .string ⟨#[97]⟩] 44)).alloc (.cells #[.int .i64 0] 3)) 46 #[.int .i64 1, .int .i64 0, .string ⟨#[97]⟩, .slice none 0 0, .int .i64 1, .int .i64 0, .string ⟨#[97]⟩, .slice (some ⟨w.heap.size + 1, 0, none⟩) 1 1, .int .i64 2, .int .i64 0, .string ⟨#[98]⟩, .slice none 0 0]
  simp only [World.size_alloc] at hb
  have hb' : BlkIs (w3 w) (w.heap.size + 1 + 1) 46 _ := hb
  have hr := (BlkIs.new (w.alloc (.cells #[.int .i64 1, .int .i64 0, .string ⟨#[97]⟩] 44)) 3 #[.int .i64 0]).alloc (.cells #[.int .i64 1, .int .i64 0, .string ⟨#[97]⟩, .slice none 0 0, .int .i64 1, .int .i64 0, .string ⟨#[97]⟩, .slice (some ⟨w.heap.size + 1, 0, none⟩) 1 1, .int .i64 2, .int .i64 0, .string ⟨#[98]⟩, .slice none 0 0] 46)
  simp only [World.size_alloc] at hr
  have hr' : BlkIs (w3 w) (w.heap.size + 1) 3 [.int .i64 0] := hr
  have hsz : (w3 w).heap.size = w.heap.size + 3 := by simp [w3]
  refine ⟨_, 0, fun j => if j = 1 then some ⟨w.heap.size + 1, 0, none⟩ else none, fun j => if j = 1 then 1 else 0, rfl, by omega, fun j hj => ?_⟩
  have h : j = 0 ∨ j = 1 ∨ j = 2 := by simp [L3] at hj; omega
  rcases h with rfl | rfl | rfl
  · exact ⟨hb'.cell 0, hb'.cell 1, hb'.cell 2, hb'.cell 3, Ints.nil⟩
  · refine ⟨hb'.cell 4, hb'.cell 5, hb'.cell 6, hb'.cell 7, fun _ => ⟨w.heap.size + 1, 0, rfl, by omega, fun i hi => ?_⟩⟩
    have hi0 : i = 0 := by
      have : i < 1 := hi
      omega
    subst hi0
    exact hr'.cell 0
  · exact ⟨hb'.cell 8, hb'.cell 9, hb'.cell 10, hb'.cell 11, Ints.nil⟩

set_option maxRecDepth 100000 in
set_option maxHeartbeats 2000000 in
theorem live_any (w : World) : Calls Try.prog 14 #[] w fun e w' => e = .returned (.bool true) ∧ Below w.heap.size w w' := by
  have HG := Lib.hid (groups_any (some ⟨w.heap.size + 1 + 1, 0, none⟩) 3 3 L3 rfl (w3 w) (by decide) small3 (items3 w))
  have HI := Lib.hid (items3 w)
  have HB := Lib.hid (below3 w)
  have HW : Hid (w3 w = ((w.alloc (.cells #[.int .i64 1, .int .i64 0, .string ⟨#[97]⟩] 44)).alloc (.cells #[.int .i64 0] 3)).alloc (.cells #[.int .i64 1, .int .i64 0, .string ⟨#[97]⟩, .slice none 0 0, .int .i64 1, .int .i64 0, .string ⟨#[97]⟩, .slice (some ⟨w.heap.size + 1, 0, none⟩) 1 1, .int .i64 2, .int .i64 0, .string ⟨#[98]⟩, .slice none 0 0] 46)) := rfl
  obtain ⟨W, hW⟩ : ∃ W, W = w3 w := ⟨_, rfl⟩
  rw [← hW] at HG HI HB HW
  go_enter Try.func14, Try.ntmps14
  go_wp2_with fail
  rw [← HW.out]
  refine HG.out.mono ?_
  rintro e w1 ⟨A1, c1, rfl, hM1, hB1⟩
  rw [groups3] at hM1 ⊢
  obtain ⟨b, off, Ax, cx, rfl, hb, hc, _⟩ := hM1.rowAt (g := 0) (by decide)
  have hcc : w1.cell? ⟨b, off, none⟩ = some (.slice Ax 2 cx) := hc
  have HI1 := Lib.hid (HI.out.next hB1)
  have HB1 := Lib.hid (HB.out.trans (hB1.mono HB.out.size))
  have Hcc := Lib.hid hcc
  clear hM1 hc hcc hB1 HG HI HB HW hW
  go_wp2_with fail
  have hmr := mright_any (some ⟨w.heap.size + 1 + 1, 0, none⟩) 3 3 L3 rfl w1 (by decide) small3 HI1.out
  rw [right3] at hmr
  refine hmr.mono ?_
  clear hmr
  rintro e w2 ⟨rfl, hB2⟩
  have HI2 := Lib.hid (HI1.out.next hB2)
  have HB2 := Lib.hid (HB1.out.trans (hB2.mono HB1.out.size))
  have hcc := cell_below Hcc.out hB2
  clear hB2 HI1 HB1
  go_wp2_with fail
  refine (deps_any (some ⟨w.heap.size + 1 + 1, 0, none⟩) 3 3 L3 rfl w2 (by decide) small3 HI2.out).mono ?_
  rintro e w4 ⟨A4, c4, rfl, _, hB4⟩
  rw [deps3]
  have HI4 := Lib.hid (HI2.out.next hB4)
  have HB4 := Lib.hid (HB2.out.trans (hB4.mono HB2.out.size))
  clear hB4 HI2 HB2
  go_wp2_with fail
  have hal : Below w4.heap.size w4 (w4.alloc (.cells #[.int .i64 0] 3)) := (Below.refl _ _).alloc (Nat.le_refl _) _
  refine (expand_any (some ⟨w.heap.size + 1 + 1, 0, none⟩) 3 3 L3 (some ⟨w4.heap.size, 0, none⟩) 1 1 [0] rfl rfl (w4.alloc (.cells #[.int .i64 0] 3)) (by decide) (by decide) small3 (HI4.out.next hal) (Ints.one w4 0 _ (by simp))).mono ?_
  rintro e w5 ⟨A5, c5, rfl, _, hB5⟩
  rw [expand3]
  have HB5 := Lib.hid (HB4.out.trans ((hal.trans (hB5.mono hal.size)).mono HB4.out.size))
  clear hB5 hal
  go_wp2_with fail
  go_ret
  exact ⟨rfl, HB5.out⟩
end Go.Proofs.Ytkfjkhacchbkeaa
