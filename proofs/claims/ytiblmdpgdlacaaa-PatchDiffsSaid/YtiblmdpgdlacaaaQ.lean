/- 'few', 'some', 'full', 'live' of the laws. -/
import Derived.Test.YtiblmdpgdlacaaaM2
import Derived.Test.YtiblmdpgdlacaaaO
namespace Go.Proofs.Ytiblmdpgdlacaaa
open Go.RowKit

theorem few_any (A : Option Addr) (n c : Nat) (w : World) (hn : n ≤ c) (hc : c ≤ maxLen) :
    Calls Try.prog 11 #[.slice A n c] w fun e w' => e = .returned (.slice A (min n 40) c) ∧ w = w' := by
  unfold maxLen at hc
  by_cases h : 40 < n
  · have e : min n 40 = 40 := by omega
    rw [e]
    have h1 : (40 : Int) < (n : Int) := by omega
    have h2 : 40 ≤ c := by omega
    clear e
    go_enter Try.func11, Try.ntmps11
    go_wp2
    go_ret
    exact ⟨rfl, rfl⟩
  · have e : min n 40 = n := by omega
    rw [e]
    have h1 : ¬ (40 : Int) < (n : Int) := by omega
    clear e
    go_enter Try.func11, Try.ntmps11
    go_wp2
    go_ret
    exact ⟨rfl, rfl⟩
theorem some_any (A : Option Addr) (n c : Nat) (w : World) (hn : n ≤ c) (hc : c ≤ maxLen) :
    Calls Try.prog 22 #[.slice A n c] w fun e w' => e = .returned (.slice A (min n 40) c) ∧ w = w' := by
  unfold maxLen at hc
  by_cases h : 40 < n
  · have e : min n 40 = 40 := by omega
    rw [e]
    have h1 : (40 : Int) < (n : Int) := by omega
    have h2 : 40 ≤ c := by omega
    clear e
    go_enter Try.func22, Try.ntmps22
    go_wp2
    go_ret
    exact ⟨rfl, rfl⟩
  · have e : min n 40 = n := by omega
    rw [e]
    have h1 : ¬ (40 : Int) < (n : Int) := by omega
    clear e
    go_enter Try.func22, Try.ntmps22
    go_wp2
    go_ret
    exact ⟨rfl, rfl⟩
/-- what 'few' leaves of bytes that came in -/
theorem few_row {w : World} {a : Option Addr} {len cap : Nat} {zs : List Int} (h : IsRow .u8 w a len cap zs) :
    ∃ l, l.length = min len 40 ∧ len ≤ cap ∧ cap ≤ maxLen ∧ Bts w w.heap.size a l := by
  obtain ⟨h1, h2, h3, h4⟩ := h.bts
  exact ⟨(zs.take len).take 40, by rw [List.length_take, h4, Nat.min_comm], h1, h2, h3.take 40⟩
theorem some_pats {w : World} {a : Option Addr} {len cap : Nat} {ps : List Pt} (h : IsPats w a len cap ps) :
    ∃ l : List Pt, l.length = min len 40 ∧ len ≤ cap ∧ cap ≤ maxLen ∧ Pats w w.heap.size a l ∧ ∀ k, k < l.length → (pn l k).ok := by
  obtain ⟨h1, h2, h3, h4, h5⟩ := h
  have hl : (ps.take 40).length = min len 40 := by rw [List.length_take, h1, Nat.min_comm]
  have hp : ∀ j, j < (ps.take 40).length → pn (ps.take 40) j = pn ps j := fun j hj => by
    rw [pn_lt hj, pn_lt (by omega), List.getElem_take]
  refine ⟨ps.take 40, hl, h2, h3, fun hn => ?_, fun k hk => ?_⟩
  · obtain ⟨b, off, e, hb, hc⟩ := h4 (by omega)
    refine ⟨b, off, e, hb, fun j hj => ?_⟩
    rw [hp j hj]
    exact hc j (by omega)
  · rw [hp k hk]
    exact h5 k (by omega)

def pAB : Pt := ⟨0, 1, ⟨#[97, 98]⟩⟩
def pA : Pt := ⟨0, 0, ⟨#[97, 98]⟩⟩
def pX : Pt := ⟨0, 1, ⟨#[120, 121]⟩⟩
theorem live_join : joinP pA pX = ⟨0, 0, ⟨#[97, 120, 121]⟩⟩ := by
  have h2 : (joinP pA pX).o = 0 := by decide +kernel
  have h3 : (joinP pA pX).s = ⟨#[97, 120, 121]⟩ := sb_inj (by decide +kernel)
  have h1 : (joinP pA pX).b = 0 := rfl
  generalize joinP pA pX = r at *
  obtain ⟨b, o, s⟩ := r
  simp only at h1 h2 h3
  subst h1 h2 h3
  rfl
theorem live_put : nth (put zeros pAB) 2 = 98 := by decide +kernel
theorem right_pAB : pAB.right = true := by decide +kernel
theorem apart_pA : pA.apart pX = false := by decide +kernel
theorem ok_of {p : Pt} (h : p.right = true) : p.ok := by
  obtain ⟨h1, h2, h3, h4, h5, h6⟩ := Pt.right_out h
  exact ⟨by omega, by omega, by unfold maxLen; omega⟩
theorem right_pA : pA.right = true := by decide +kernel
theorem right_pX : pX.right = true := by decide +kernel

set_option maxRecDepth 100000 in
set_option maxHeartbeats 1000000 in
theorem live_any (w : World) : Calls Try.prog 16 #[] w fun e w' => e = .returned (.bool true) ∧ Below w.heap.size w w' := by
  have hmk : ∀ W, (Instr.makeSlice 22 (.int .i64 32) (.int .i64 32)).run Try.prog W = .ok (.slice (some ⟨W.heap.size, 0, none⟩) 32 32) (W.alloc (.cells (madeCells #[Value.int .u8 0] 32) 5)) := fun W => run_make_row' (P := Try.prog) 22 5 (.int .u8 0) 1 Try.underlying22 info5 rfl .i64 .i64 32 (by omega) (by omega) W
  rw [made_bytes] at hmk
  have hb : Bts (w.alloc (.cells (bytesV zeros).toArray 5)) (w.heap.size + 1) (some ⟨w.heap.size, 0, none⟩) zeros := BlkIs.bts (heap_alloc_new w _) zeros_all (by omega)
  have C0 := apply_any (some ⟨w.heap.size, 0, none⟩) 32 zeros pAB (w.alloc (.cells (bytesV zeros).toArray 5)) (by simpa using hb) zeros_len (ok_of right_pAB)
  have hap : allP zeros [pAB] = some (put zeros pAB) := by simp [allP, right_pAB]
  rw [hap] at C0
  have C1 := Lib.hid C0
  have C2 := Lib.hid (fun W => join_yes pA pX W (ok_of right_pA) (ok_of right_pX) apart_pA)
  rw [live_join] at C2
  have HB : Hid (Below w.heap.size w (w.alloc (.cells (bytesV zeros).toArray 5))) := below_alloc1 w _
  have H2 := Lib.hid live_put
  obtain ⟨L0, hL0⟩ : ∃ L0, L0 = (bytesV zeros).toArray := ⟨_, rfl⟩
  have hL0' : (bytesV (List.replicate 32 0)).toArray = L0 := hL0.symm
  rw [hL0'] at hmk
  rw [← hL0] at C1 HB
  obtain ⟨m, hm⟩ : ∃ m, m = put zeros pAB := ⟨_, rfl⟩
  rw [← hm] at C1 H2
  clear hL0 hL0' hb hap C0 hm
  unfold Pt.v pAB at C1
  unfold Pt.v pA pX at C2
  simp only at C1 C2
  go_enter Try.func16, Try.ntmps16
  go_wp2_with fail
  refine C1.out.mono ?_
  rintro e w1 ⟨hB1, A1, c1, rfl, h1, h2, h3, h4⟩
  obtain ⟨b, off, rfl, hbb, hc⟩ := h3.at_ (show 2 < m.length by omega)
  rw [H2.out] at hc
  have HB1 := Lib.hid (HB.out.trans (hB1.mono (by simp)))
  clear hB1 h3
  go_wp2_with fail
  refine (C2.out _).mono ?_
  rintro e w2 ⟨rfl, hB2⟩
  have hc2 : (w2.alloc (.cells #[.int .i64 0, .int .i64 0, .string ⟨#[97, 120, 121]⟩] 24)).cell? ⟨b, off + 2, none⟩ = some (.int .u8 98) := by
    have h := hB2.trans ((below_alloc1 w2 (.cells #[.int .i64 0, .int .i64 0, .string ⟨#[97, 120, 121]⟩] 24)).mono hB2.size)
    exact (h.cell hbb).trans hc
  have hfin := HB1.out.trans ((hB2.trans ((below_alloc1 w2 (.cells #[.int .i64 0, .int .i64 0, .string ⟨#[97, 120, 121]⟩] 24)).mono hB2.size)).mono HB1.out.size)
  have HF := Lib.hid hfin
  clear hfin hB2 hc
  unfold maxLen at h2
  go_wp2
  go_ret
  exact ⟨rfl, HF.out⟩
end Go.Proofs.Ytiblmdpgdlacaaa
