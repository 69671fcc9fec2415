/- Contract of the document's Closed; Closed anyhow. -/
import Derived.Test.YtmekffcpbjmffaaT
import Derived.Test.YtmekffcpbjmffaaP
namespace Go.Proofs.Ytmekffcpbjmffaa
open Go.RowKit

theorem closed_yes (A : Option Addr) (c kD : Nat) (D : List (List Nat)) (hkD : kD = D.length) (hD : OkD D) (A2 : Option Addr) (c2 k2 : Nat) (l : List Int) (hk2 : k2 = l.length) (hl : l.length ≤ 100000) (w : World)
    (hM : Mat w w.heap.size A (rowsI D)) (hI : Ints w w.heap.size A2 l) :
    Calls Try.prog 18 #[.slice A kD c, .slice A2 k2 c2] w fun e W' => e = .returned (.bool (closedB D l)) ∧ Below w.heap.size w W' :=
  callsIn_wide.1 (closed_in 4 (Nat.le_refl _) A c kD D hkD hD A2 c2 k2 l hk2 hl w hM hI)
set_option maxRecDepth 100000 in
set_option maxHeartbeats 1000000 in
theorem closed_no (A : Option Addr) (c k : Nat) (R : List (List Int)) (hk : k = R.length) (hok : okB R = false) (v2 : Value) (w : World) (hl : R.length ≤ 1000) (hr : ∀ k, k < R.length → (rowI R k).length ≤ 1000) (hM : Mat w w.heap.size A R) :
    Calls Try.prog 18 #[.slice A k c, v2] w fun e w' => e = .returned (.bool false) ∧ Below w.heap.size w w' := by
  have hw0 : Below w.heap.size w ((w.alloc (.cells #[.slice A k c] 22)).alloc (.cells #[.bool false] 4)) := ((Below.refl _ _).alloc (Nat.le_refl _) _).alloc (by simp) _
  obtain ⟨hz4, _⟩ := zero_of_info (P := Try.prog) zero4
  have H := Lib.hid (right_no A c k R hk hok ((w.alloc (.cells #[.slice A k c] 22)).alloc (.cells #[.bool false] 4)) hl hr ((hM.below hw0).more (by simp; omega)))
  have Hw0 := Lib.hid hw0
  clear hk hok hr hM hw0
  go_enter Try.func18, Try.ntmps18
  go_wp2_with (go_at_call 16; refine H.out.mono ?_; rintro e w' ⟨rfl, rfl⟩)
  have hb1 := Boxed.new (w.alloc (.cells #[.slice A k c] 22)) 4 (.bool false)
  simp only [World.size_alloc] at hb1
  exact bodyPost_ret (v := .bool false) (results_one _ _ (w.heap.size + 1) false rfl rfl hb1) rfl ⟨rfl, Hw0.out⟩
set_option maxRecDepth 100000 in
set_option maxHeartbeats 1000000 in
theorem refclosed_no (A : Option Addr) (c k : Nat) (R : List (List Int)) (hk : k = R.length) (hok : okB R = false) (v2 : Value) (w : World) (hl : R.length ≤ 1000) (hr : ∀ k, k < R.length → (rowI R k).length ≤ 1000) (hM : Mat w w.heap.size A R) :
    Calls Try.prog 19 #[.slice A k c, v2] w fun e w' => e = .returned (.bool false) ∧ w = w' := by
  have H := Lib.hid (refright_no A c k R hk hok w hl hr hM)
  clear hk hok hr hM
  go_enter Try.func19, Try.ntmps19
  go_wp2_with (go_at_call 17; refine H.out.mono ?_; rintro e w' ⟨rfl, rfl⟩)
  go_ret
  exact ⟨rfl, rfl⟩

set_option maxRecDepth 100000 in
set_option maxHeartbeats 2000000 in
theorem refclosed_yes (A : Option Addr) (c kD : Nat) (D : List (List Nat)) (hkD : kD = D.length) (hD : OkD D) (A2 : Option Addr) (c2 k2 : Nat) (l : List Int) (hk2 : k2 = l.length) (hl : l.length ≤ 100000) (w : World)
    (hM : Mat w w.heap.size A (rowsI D)) (hI : Ints w w.heap.size A2 l) :
    Calls Try.prog 19 #[.slice A kD c, .slice A2 k2 c2] w fun e w' => e = .returned (.bool (closedB D l)) ∧ Below w.heap.size w w' := by
  subst hkD hk2
  have HR := Lib.hid (refright_yes A c D.length D rfl hD w hM)
  obtain ⟨M, hMl, hmk⟩ := make_bools D.length hD.right.1
  have HMl := Lib.hid hMl
  have HM := Lib.hid hM
  have HI := Lib.hid hI
  have HDo := Lib.hid hD
  have hD256 := hD.right.1
  clear hMl hM hI hD
  go_enter Try.func19, Try.ntmps19
  go_wp2_with (go_at_call 17; refine HR.out.mono ?_; rintro e w' ⟨rfl, rfl⟩)
  clear hmk
  go_loopw [6] (fun i wr => ∃ k : Nat, k ≤ l.length ∧ i = .int .i64 k ∧ (∀ x ∈ l.take k, isN D x = true) ∧ MarksN wr w.heap.size D.length (markI D.length (l.take k)) ∧ Below w.heap.size w wr) (fun i _ => l.length - (intOf i).toNat)
  case atStart =>
    refine ⟨0, Nat.zero_le _, rfl, fun x hx => by simp at hx, ?_, (Below.refl _ _).alloc (Nat.le_refl _) _⟩
    rw [List.take_zero, markI_nil]
    exact MarksN.made w _ M HMl.out
  case round =>
    obtain ⟨k, hk, rfl, hall, hmk, hB⟩ := hrel
    rename World => wr
    have Hall := Lib.hid hall
    clear hall
    by_cases hlt : k < l.length
    · have hlti : (k : Int) < (l.length : Int) := by omega
      have hk0 : (0 : Int) ≤ (k : Int) := by omega
      obtain ⟨b, off, rfl, hb, hcw⟩ := HI.out.at_ hlt
      have hc := (Below.cell hB (p := ⟨b, off + k, none⟩) hb).trans hcw
      have Htk := Lib.hid (take_nth l k hlt)
      have Hmem : Hid (nth l k ∈ l) := by unfold Hid; rw [nth_lt hlt]; exact List.getElem_mem _
      obtain ⟨x, hx⟩ : ∃ x, x = nth l k := ⟨_, rfl⟩
      rw [← hx] at hc Htk Hmem
      have Hmk := Lib.hid hmk
      clear hmk hx hcw
      by_cases hx0 : 0 ≤ x
      · by_cases hxn : x < (D.length : Int)
        · obtain ⟨y, rfl⟩ := Int.eq_ofNat_of_zero_le hx0
          have hyn : y < D.length := by omega
          have hcell := Hmk.out.cell hyn
          have hfr := BlkIs.frozen Hmk.out y
          have Hy : Hid (isN D (y : Int) = true) := by unfold Hid isN; simp; omega
          go_wp2_with fail
          go_roundw
          case rel =>
            refine ⟨k + 1, by omega, by go_num, fun z hz => ?_, ?_, hB.setCell (p := ⟨w.heap.size, y, none⟩) (Nat.le_refl _) _⟩
            · rw [Htk.out] at hz
              rcases List.mem_append.1 hz with hz | hz
              · exact Hall.out z hz
              · rw [List.mem_singleton.1 hz]; exact Hy.out
            · rw [Htk.out, markI_hit hyn]
              exact Hmk.out.set_ y
          case measure => simp [intOf]; omega
        · have Hf := Lib.hid (closedB_no (D := D) (l := l) (fun h => by have := h.1 x Hmem.out; unfold isN at this; simp at this; omega))
          go_wp2_with fail
          go_ret
          exact ⟨ret_bool Hf.out.symm, hB⟩
      · have Hf := Lib.hid (closedB_no (D := D) (l := l) (fun h => by have := h.1 x Hmem.out; unfold isN at this; simp at this; omega))
        have hx1 : x < 0 := by omega
        go_wp2_with fail
        go_ret
        exact ⟨ret_bool Hf.out.symm, hB⟩
    · have hlti : ¬ (k : Int) < (l.length : Int) := by omega
      obtain rfl : k = l.length := by omega
      have Hall2 : Hid (∀ x ∈ l, isN D x = true) := by have := Hall.out; rw [List.take_length] at this; exact this
      rw [List.take_length] at hmk
      obtain ⟨m, hm⟩ : ∃ m, m = markI D.length l := ⟨_, rfl⟩
      rw [← hm] at hmk
      have Hm := Lib.hid hm
      have Hmk := Lib.hid hmk
      have HB := Lib.hid hB
      clear hm hmk hB Hall
      go_wp2_with fail
      go_loop [7] (fun i => ∃ j : Nat, j ≤ D.length ∧ i = .int .i64 j ∧ ∀ x, x < j → m x = true → ∀ d ∈ rowN D x, m d = true) (fun i => D.length - (intOf i).toNat)
      case atStart => exact ⟨0, Nat.zero_le _, rfl, fun x hx => by omega⟩
      case round =>
        obtain ⟨x, hxle, rfl, hok⟩ := hrel
        have Hok := Lib.hid hok
        clear hok
        by_cases hxD : x < D.length
        · have hxi : (x : Int) < (D.length : Int) := by omega
          have hx256 : (x : Int) < 256 := by omega
          have hx0 : (0 : Int) ≤ (x : Int) := by omega
          obtain ⟨b, off, Ak, ck, rfl, hb, hcw, hIw⟩ := HM.out.at_ (k := x) (by rw [length_rowsI]; exact hxD)
          have hc := (Below.cell HB.out (p := ⟨b, off + x, none⟩) hb).trans hcw
          rw [rowI_rowsI, length_natsI] at hc
          rw [rowI_rowsI] at hIw
          have hrl := HDo.out.len x
          have hrlt := HDo.out.right.2 x
          obtain ⟨row, hrow⟩ : ∃ row, row = rowN D x := ⟨_, rfl⟩
          rw [← hrow] at hc hIw hrl hrlt
          have HIw := Lib.hid hIw
          have Hrlt := Lib.hid hrlt
          have Hrow := Lib.hid hrow
          have hcx := Hmk.out.cell hxD
          clear hcw hIw hrlt hrow
          cases hv : m x with
          | false =>
            have Hv := Lib.hid hv
            rw [hv] at hcx
            clear hv
            go_wp2_with fail
            go_loop [8] (fun i => ∃ q : Nat, q ≤ row.length ∧ i = .int .i64 q) (fun i => row.length - (intOf i).toNat)
            case atStart => exact ⟨0, Nat.zero_le _, rfl⟩
            case round =>
              obtain ⟨q, hq, rfl⟩ := hrel
              by_cases hltq : q < row.length
              · have hltqi : (q : Int) < (row.length : Int) := by omega
                go_wp2_with fail
                go_round
                case rel => exact ⟨q + 1, by omega, by go_num⟩
                case measure => simp [intOf]; omega
              · have hltqi : ¬ (q : Int) < (row.length : Int) := by omega
                go_wp2_with fail
                go_round
                case rel =>
                  refine ⟨x + 1, by omega, by go_num, fun y hy hmy => ?_⟩
                  by_cases e : y = x
                  · subst e; rw [Hv.out] at hmy; cases hmy
                  · exact Hok.out y (by omega) hmy
                case measure => simp [intOf]; omega
          | true =>
            have Hv := Lib.hid hv
            rw [hv] at hcx
            clear hv
            go_wp2_with fail
            go_loop [8] (fun i => ∃ q : Nat, q ≤ row.length ∧ i = .int .i64 q ∧ ∀ d ∈ row.take q, m d = true) (fun i => row.length - (intOf i).toNat)
            case atStart => exact ⟨0, Nat.zero_le _, rfl, fun d hd => by simp at hd⟩
            case round =>
              obtain ⟨q, hq, rfl, hro⟩ := hrel
              have Hro := Lib.hid hro
              clear hro
              by_cases hltq : q < row.length
              · have hltqi : (q : Int) < (row.length : Int) := by omega
                have hq0 : (0 : Int) ≤ (q : Int) := by omega
                obtain ⟨bj, oj, rfl, hbj, hcj⟩ := HIw.out.at_ (k := q) (by rw [length_natsI]; exact hltq)
                rw [nth_nats row q hltq] at hcj
                have hc3 := (Below.cell HB.out (p := ⟨bj, oj + q, none⟩) hbj).trans hcj
                have htk := take_el row q hltq
                have hdx := Hrlt.out (el row q) (by rw [el_lt hltq]; exact List.getElem_mem _)
                have hdm : el row q ∈ row := by rw [el_lt hltq]; exact List.getElem_mem _
                obtain ⟨d, hd⟩ : ∃ d, d = el row q := ⟨_, rfl⟩
                rw [← hd] at hc3 htk hdx hdm
                have Htk := Lib.hid htk
                have Hdm := Lib.hid hdm
                have hdi : (d : Int) < (D.length : Int) := by omega
                have hd0 : (0 : Int) ≤ (d : Int) := by omega
                have hcd := Hmk.out.cell (x := d) (by omega)
                clear htk hd hcj hdm
                cases hvd : m d with
                | true =>
                  have Hvd := Lib.hid hvd
                  rw [hvd] at hcd
                  clear hvd
                  go_wp2_with fail
                  go_round
                  case rel =>
                    refine ⟨q + 1, by omega, by go_num, fun y hy => ?_⟩
                    rw [Htk.out] at hy
                    rcases List.mem_append.1 hy with hy | hy
                    · exact Hro.out y hy
                    · rw [List.mem_singleton.1 hy]; exact Hvd.out
                  case measure => simp [intOf]; omega
                | false =>
                  have Hf := Lib.hid (closedB_no (D := D) (l := l) (fun h => by
                    have := h.2 x (by rw [← Hm.out]; exact Hv.out) d (by rw [← Hrow.out]; exact Hdm.out)
                    rw [← Hm.out, hvd] at this; cases this))
                  rw [hvd] at hcd
                  clear hvd
                  go_wp2_with fail
                  go_ret
                  exact ⟨ret_bool Hf.out.symm, HB.out⟩
              · have hltqi : ¬ (q : Int) < (row.length : Int) := by omega
                obtain rfl : q = row.length := by omega
                have Hro2 : Hid (∀ d ∈ row, m d = true) := by have := Hro.out; rw [List.take_length] at this; exact this
                go_wp2_with fail
                go_round
                case rel =>
                  refine ⟨x + 1, by omega, by go_num, fun y hy hmy => ?_⟩
                  by_cases e : y = x
                  · subst e; rw [← Hrow.out]; exact Hro2.out
                  · exact Hok.out y (by omega) hmy
                case measure => simp [intOf]; omega
        · have hxe : x = D.length := by omega
          have hxi : ¬ (x : Int) < (D.length : Int) := by omega
          have Hf := Lib.hid (closedB_yes (D := D) (l := l) ⟨Hall2.out, fun y hy d hd => by
            rw [← Hm.out] at hy ⊢
            exact Hok.out y (by have := markI_lt (n := D.length) (l := l) (x := y) (by rw [← Hm.out]; exact hy); omega) hy d hd⟩)
          go_wp2_with fail
          go_ret
          exact ⟨ret_bool Hf.out.symm, HB.out⟩
end Go.Proofs.Ytmekffcpbjmffaa
