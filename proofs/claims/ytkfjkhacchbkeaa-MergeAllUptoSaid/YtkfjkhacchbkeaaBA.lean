/- Contracts of Copy and SameBlocks. -/
import Derived.Test.YtkfjkhacchbkeaaFF
import Derived.Deep.QuietTactic
import Derived.BigQuiet
namespace Go.Proofs.Ytkfjkhacchbkeaa
set_option linter.unusedVariables false
set_option linter.unusedSimpArgs false
open Go.RowKit

theorem info53 : (Try.prog.info? 53).map (fun i => (i.zero, i.size, i.bytes)) = some (some (.slice none 0 0), 1, 24) := by kernel_rfl
def CopySays (w : World) (L : List (List Int)) (e : Ending) (w' : World) : Prop := ∃ A c, e = .returned (.slice A L.length c) ∧ OutR w' A L ∧ (∀ a, A = some a → w.heap.size ≤ a.block) ∧ Below w.heap.size w w'
theorem take_rowI (L : List (List Int)) (k : Nat) (h : k < L.length) : L.take (k + 1) = L.take k ++ [rowI L k] := by
  rw [List.take_succ_eq_append_getElem h]
  unfold rowI
  rw [List.getD_eq_getElem?_getD, List.getElem?_eq_getElem h]
  rfl

set_option maxRecDepth 100000 in
set_option maxHeartbeats 4000000 in
theorem copy_any (A : Option Addr) (c n : Nat) (L : List (List Int)) (hn : n = L.length) (w : World) (hl : L.length ≤ 1000) (hr : ∀ j, j < L.length → (rowI L j).length ≤ 2000000) (hR : Rws w w.heap.size A L) :
    Calls Try.prog 29 #[.slice A n c] w (CopySays w L) := by
  obtain ⟨j0, hj0, hy0, hy1, hy2⟩ := info_parts info53
  have HR := Lib.hid hR
  have Hn := Lib.hid hn
  have Hr := Lib.hid hr
  have hn1 : n ≤ 1000 := by omega
  clear hR hn hr hl
  go_enter Try.func29, Try.ntmps29
  go_wp2_with fail
  go_loopw [3, 4] (fun v i wr => ∃ (k : Nat) (vs : Nat → Value), k ≤ n ∧ i = .int .i64 k ∧ RbSt w.heap.size wr (L.take k) v vs ∧ Below w.heap.size w wr) (fun _ i _ => n - (intOf i).toNat)
  case atStart => exact ⟨0, _, Nat.zero_le _, rfl, RbSt.nil _ _, Below.refl _ _⟩
  case round =>
    obtain ⟨k, vs, hk, rfl, hst, hB⟩ := hrel
    rename World => wr
    have Hst := Lib.hid hst
    have HB := Lib.hid hB
    have hsz := hB.size
    by_cases hlt : k < n
    · have hlti : (k : Int) < (n : Int) := by omega
      have hk0 : (0 : Int) ≤ (k : Int) := by omega
      have hkl : k < L.length := by rw [← Hn.out]; exact hlt
      obtain ⟨g, off, Ak, ck, rfl, hg, hc, hb⟩ := HR.out.at_ hkl
      have hcr : wr.cell? ⟨g, off + k, none⟩ = some (.slice Ak (rowI L k).length ck) := (hB.cell (p := ⟨g, off + k, none⟩) hg).trans hc
      have hcr : (wr.alloc (.cells #[] 5)).cell? ⟨g, off + k, none⟩ = some (.slice Ak (rowI L k).length ck) := ((Pat.below_alloc1 wr (.cells #[] 5)).cell (p := ⟨g, off + k, none⟩) (show g < wr.heap.size by omega)).trans hcr
      have hbt : Pat.Bts (wr.alloc (.cells #[] 5)) wr.heap.size Ak (rowI L k) := ((hb.below hB).more hsz).below (Pat.below_alloc1 wr _)
      have hrl := Hr.out k hkl
      have hall := hb.1
      have Htk := Lib.hid (take_rowI L k hkl)
      obtain ⟨row, hrow⟩ : ∃ row, row = rowI L k := ⟨_, rfl⟩
      rw [← hrow] at hcr hbt hrl hall Htk
      obtain ⟨q, hq⟩ : ∃ q, q = L.take k := ⟨_, rfl⟩
      have hql : q.length ≤ 1000 := by rw [hq, List.length_take]; omega
      rw [← hq] at Hst Htk
      have Hbt := Lib.hid hbt
      have Hall := Lib.hid hall
      clear hst hB hg hc hb hkl hrow hq hbt hall
      go_wp2_with (first
        | (at_builtin; refine Pat.wpList_append_bytes rfl (.tmp 12) (.tmp 16) rfl wr.heap.size _ 0 [] rfl (Pat.own_empty wr) wr.heap.size Ak row ck row.length rfl rfl Hbt.out (by omega) (by simp) ?_; intro vb w2 hown2 hgrow2; have hB2 : Below wr.heap.size wr w2 := Pat.below_copy hgrow2; have hown3 : w2.ownsRow wr.heap.size 5 1 vb row.length (Pat.bytesV row) := (by simpa using hown2); obtain ⟨Ab, cb, rfl, _, _⟩ := own_form hown3 Hall.out; have Hrow := Lib.hid (own_mono hown3 hsz); have Hst2 := Lib.hid (Hst.out.next hB2); have HB2 := Lib.hid (HB.out.trans (hB2.mono hsz)); have hsz2 := HB2.out.size; have hgp := Hst2.out.grp; clear hown2 hgrow2 hown3 hB2)
        | (at_builtin; refine wpList_append_own _ rfl (.tmp 11) (.tmp 18) 38 rfl w.heap.size 53 j0 (.slice none 0 0) 1 24 Try.underlying38 hj0 hy0 hy1 hy2 rfl (by decide) _ _ _ rfl (hgp.alloc _) ⟨w2.heap.size, 0, none⟩ 1 1 [.slice Ab row.length cb] rfl rfl (cell_one_new _ _ _) (by simp [Value.oneCell']) (by unfold maxLen; omega) (by omega) (by simp; omega) ?_; intro v' w8 hown' hgrow _; have hpush := RbSt.push Hst2.out Hrow.out Hall.out hown' hgrow; have hB8 : Below w.heap.size w w8 := HB2.out.trans ((((Below.refl _ w2).alloc hsz2 _)).grown hgrow (by simp; omega) (fun j e => (hgp.lt j e).1)); have Hpush := Lib.hid hpush; have HB8 := Lib.hid hB8; clear hpush hB8 hown' hgrow))
      go_roundw
      case rel => exact ⟨k + 1, _, by omega, by go_num, by rw [Htk.out]; exact Hpush.out, HB8.out⟩
      case measure => simp [intOf]; omega
    · have hlti : ¬ (k : Int) < (n : Int) := by omega
      obtain rfl : k = n := by omega
      have hall : L.take k = L := by rw [Hn.out, List.take_length]
      rw [hall] at hst
      obtain ⟨Av, cv, rfl, ho, hbs⟩ := hst.out
      have Ho := Lib.hid ho
      have Hbs := Lib.hid hbs
      clear hst hB hall ho hbs Hst
      go_wp2_with fail
      go_ret
      exact ⟨Av, cv, rfl, Ho.out, Hbs.out, HB.out⟩

theorem conv_empty (w : World) (A : Option Addr) (c : Nat) : (convert 53 9 (.slice A 0 c)).run Try.prog w = .ok (.string (strOfNums [])) w := by
  rw [run_convert_bytes_string w 53 9 5 _ 0 c Try.underlying53 Try.underlying5 Try.underlying9]
  cases A <;> simp [Conv.bytesToString, loadCells]
  all_goals rfl
theorem bts_text {w : World} {B : Nat} {A : Option Addr} {l : List Int} (h : Pat.Bts w B A l) (c n : Nat) (hn : n = l.length) (m : Nat) : (convert 53 9 (.slice A n c)).run Try.prog (w.drewN m) = .ok (.string (strOfNums l)) (w.drewN m) := by
  subst hn
  cases l with
  | nil => exact conv_empty _ A c
  | cons x l =>
    obtain ⟨b, off, rfl, _, hc⟩ := h.2 (by simp)
    exact run_convert_bytes_arg (w.drewN m) 53 5 Try.underlying53 Try.underlying5 b off _ c (x :: l) rfl hc 9 Try.underlying9

set_option maxRecDepth 100000 in
set_option maxHeartbeats 4000000 in
theorem sameblocks_any (A1 A2 : Option Addr) (c1 c2 n1 n2 : Nat) (L : List (List Int)) (hn1 : n1 = L.length) (hn2 : n2 = L.length) (w : World) (hl : L.length ≤ 1000) (h1 : Rws w w.heap.size A1 L) (h2 : Rws w w.heap.size A2 L) :
    Calls Try.prog 31 #[.slice A1 n1 c1, .slice A2 n2 c2] w fun e w' => e = .returned (.bool true) ∧ Quiet w w' := by
  obtain rfl : n2 = n1 := by omega
  have H1 := Lib.hid h1
  have H2 := Lib.hid h2
  have Hn := Lib.hid hn1
  have hle : n2 ≤ 1000 := by omega
  clear h1 h2 hn1 hn2 hl
  go_enter Try.func31, Try.ntmps31
  go_wp2_with fail
  go_loopw [5] (fun i wr => ∃ k : Nat, k ≤ n2 ∧ i = .int .i64 k ∧ Quiet w wr) (fun i _ => n2 - (intOf i).toNat)
  case atStart => exact ⟨0, Nat.zero_le _, rfl, Quiet.refl _⟩
  case round =>
    obtain ⟨k, hk, rfl, hqu⟩ := hrel
    rename World => wr
    have Hqu := Lib.hid hqu
    by_cases hlt : k < n2
    · have hlti : (k : Int) < (n2 : Int) := by omega
      have hk0 : (0 : Int) ≤ (k : Int) := by omega
      have hkl : k < L.length := by rw [← Hn.out]; exact hlt
      have hB : Below w.heap.size w wr := hqu.belowR
      obtain ⟨g1, o1, B1, d1, rfl, hg1, hc1, hb1⟩ := H1.out.at_ hkl
      obtain ⟨g2, o2, B2, d2, rfl, hg2, hc2, hb2⟩ := H2.out.at_ hkl
      have f1 := (hB.cell (p := ⟨g1, o1 + k, none⟩) hg1).trans hc1
      have f2 := (hB.cell (p := ⟨g2, o2 + k, none⟩) hg2).trans hc2
      have x1 := bts_text (hb1.below hB) d1 _ rfl
      have x2 := bts_text (hb2.below hB) d2 _ rfl
      obtain ⟨S, hS⟩ : ∃ S, S = strOfNums (rowI L k) := ⟨_, rfl⟩
      rw [← hS] at x1 x2
      obtain ⟨m, hm⟩ : ∃ m, m = (rowI L k).length := ⟨_, rfl⟩
      rw [← hm] at f1 f2 x1 x2
      clear hg1 hc1 hb1 hg2 hc2 hb2 hS hm hqu hB hkl
      go_wp2_with fail
      go_quiet (fail)
      go_wp2
      go_roundw
      case rel => exact ⟨k + 1, by omega, by go_num, Hqu.out.trans ⟨_, rfl⟩⟩
      case measure => simp [intOf]; omega
    · have hlti : ¬ (k : Int) < (n2 : Int) := by omega
      obtain rfl : k = n2 := by omega
      clear hqu
      go_wp2_with fail
      go_ret
      exact ⟨rfl, Hqu.out⟩
end Go.Proofs.Ytkfjkhacchbkeaa
