/- lasting: what lasts on a disk of five blocks, one behind the other. -/
import Derived.Test.YtegacggkdjgdiaaCO
import Derived.Test.YtegacggkdjgdiaaQU
set_option linter.unusedVariables false
set_option linter.unusedSimpArgs false
namespace Go.Proofs.Ytegacggkdjgdiaa
open Go.RowKit

theorem row_below {w w' : World} {B : Nat} {e : TypeId} {size : Nat} {v : Value} {n : Nat} {xs : List Value} (h : w.ownsRow B e size v n xs) (hb : Below w.heap.size w w') : w'.ownsRow B e size v n xs :=
  (Kept.fresh (S := fun _ => False) hb).row h (fun _ _ q => q)
/-- what lasts on the first k blocks -/
def imgs (S : Nat → Bk) (k : Nat) : List Int := (List.range k).flatMap fun b => (S b).s
theorem imgs_succ (S : Nat → Bk) (k : Nat) : imgs S (k + 1) = imgs S k ++ (S k).s := by
  unfold imgs; rw [List.range_succ, List.flatMap_append]; simp
theorem bytesV_app (a b : List Int) : bytesV (a ++ b) = bytesV a ++ bytesV b := by simp [bytesV]
set_option maxRecDepth 100000 in
set_option maxHeartbeats 2000000 in
theorem lasting_any {w : World} {g c : Nat} {S : Nat → Bk} {F : Nat → Prop} (h : Code w g 5 S c F) :
    Calls Try.prog 15 #[.pointer (some ⟨g, 0, none⟩)] w fun e w' => ∃ A cap, e = .returned (.slice A 160 cap) ∧ w'.ownsRow w.heap.size 5 1 (.slice A 160 cap) 160 (bytesV (imgs S 5)) ∧ Below w.heap.size w w' := by
  have HC := Lib.hid h
  obtain ⟨i0, hi0, hz0, hz1, hz2⟩ := info_parts info5
  clear h
  go_enter Try.func15, Try.ntmps15
  go_wp2
  go_loopw [3, 4] (fun v q wr => ∃ (i : Nat) (A : Option Addr) (cap : Nat), i ≤ 5 ∧ q = .int .i64 i ∧ v = .slice A (32 * i) cap ∧ Hid (wr.ownsRow w.heap.size 5 1 (.slice A (32 * i) cap) (32 * i) (bytesV (imgs S i))) ∧ Hid (Below w.heap.size w wr)) (fun _ q _ => 5 - (intOf q).toNat)
  case atStart => exact ⟨0, none, 0, Nat.zero_le _, rfl, rfl, World.ownsRow_nil _ _ _ _, Below.refl _ _⟩
  case round =>
    obtain ⟨i, A, cap, hi, rfl, rfl, hO, hB⟩ := hrel
    rename World => wr
    have hsz := hB.out.size
    have HSz := Lib.hid (csize (HC.out.fresh hB.out))
    by_cases hi5 : i < 5
    · have hi5i : (i : Int) < ((5 : Nat) : Int) := by omega
      have HL := Lib.hid (clast (HC.out.fresh hB.out) hi5)
      obtain ⟨T, hT⟩ : ∃ T, T = (S i).s := ⟨_, rfl⟩
      have hTl : T.length = 32 := by rw [hT]; exact (HC.out.okS hi5).1
      have HTl := Lib.hid hTl
      have HT := Lib.hid hT
      have hszU : Hid ((Try.prog.info? 65).map (·.size) = some (bytesV T).toArray.size) := by unfold Hid; rw [List.size_toArray, length_bytesV, hTl]; exact size36
      have hone : Hid ((bytesV T).toArray.all (·.oneCell') = true) := all_oneCell_toArray (bytesV_one _)
      have hold : Hid (32 = (bytesV T).toArray.size) := by unfold Hid; rw [List.size_toArray, length_bytesV, hTl]
      rw [← hT] at HL
      unfold secV at HL
      obtain ⟨U, hU⟩ : ∃ U, U = (bytesV T).toArray := ⟨_, rfl⟩
      have HU := Lib.hid hU
      rw [← hU] at HL hszU hone hold
      clear hT hTl hU
      go_wp2_with (first
        | (go_at_call 46; refine HSz.out.mono ?_; rintro en w' ⟨rfl, rfl⟩)
        | (go_at_call 30; refine HL.out.mono ?_; rintro en v1 ⟨rfl, hb1⟩; have HV1 := Lib.hid hb1; clear hb1)
        | (refine wpList_store_row rfl 65 (.tmp 5) (.tmp 17) rfl v1.heap.size U rfl rfl 65 _ (heap_alloc_new v1 _) hszU.out hold.out hone.out ?_
           generalize hW : World.setRow (v1.alloc (Obj.cells _ 65)) _ U = v2
           have b2 : Hid (v2.heap[v1.heap.size]? = some (.cells U 65 (0, 0))) := by rw [← hW]; exact setRow_heap _ _ _ _ _ _ (heap_alloc_new v1 _)
           have HV2 : Hid (Below wr.heap.size wr v2) := by rw [← hW]; exact HV1.out.trans ((below_setRow (below_alloc1 v1 _) (Nat.le_refl _) _).mono HV1.out.size)
           clear hW)
        | (at_builtin
           refine wpList_append_src rfl (.tmp 19) (.tmp 20) 23 rfl w.heap.size 5 i0 _ 1 1 Try.underlying23 hi0 hz0 hz1 hz2 rfl (by decide) (.slice A (32 * i) cap) (32 * i) (bytesV (imgs S i)) rfl (row_below hO.out HV2.out) (some ⟨v1.heap.size, 0, none⟩) 32 32 (bytesV T) rfl (by rw [length_bytesV, HTl.out]) (by have := src_at b2.out; rw [HU.out] at this; exact this) (fun e => by cases e) (bytesV_one _) (by unfold maxLen; omega) (by omega) (by have := HV2.out.size; omega) (32 * (i + 1)) (by omega) ?_
           intro A2 cap2 w2 ho hg hor
           have HO2 : Hid (w2.ownsRow w.heap.size 5 1 (.slice A2 (32 * (i + 1)) cap2) (32 * (i + 1)) (bytesV (imgs S (i + 1)))) := by rw [imgs_succ, bytesV_app, ← HT.out]; exact ho
           have HB2 : Hid (Below w.heap.size w w2) := (hB.out.trans (HV2.out.mono hsz)).grown hg (by have := HV2.out.size; omega) (fun j e => ((row_below hO.out HV2.out).lt j e).1)
           clear ho hg hor))
      go_roundw
      case rel => exact ⟨i + 1, A2, cap2, by omega, by go_num, rfl, HO2.out, HB2.out⟩
      case measure => simp [intOf]; omega
    · obtain rfl : i = 5 := by omega
      have hi5i : ¬ (5 : Int) < ((5 : Nat) : Int) := by omega
      go_wp2_with (go_at_call 46; refine HSz.out.mono ?_; rintro en w' ⟨rfl, rfl⟩)
      go_ret
      exact ⟨A, cap, rfl, hO.out, hB.out⟩
end Go.Proofs.Ytegacggkdjgdiaa
