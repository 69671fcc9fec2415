/- The document's own marks; contracts of those and of its Close. -/
import Derived.Test.YthffdkoncagimaaGS
namespace Go.Proofs.Ythffdkoncagimaa
set_option linter.unusedVariables false
set_option linter.unusedSimpArgs false
set_option maxRecDepth 100000
open Go.RowKit

def marksN (n : Nat) (m : Nat → Bool) : List Value := (List.range n).map fun x => .bool (m x)
theorem length_marksN (n : Nat) (m : Nat → Bool) : (marksN n m).length = n := by simp [marksN]
theorem marksN_at (n : Nat) (m : Nat → Bool) {x : Nat} (h : x < n) : (marksN n m)[x]? = some (.bool (m x)) := by
  rw [List.getElem?_eq_getElem (by rw [length_marksN]; exact h)]
  simp [marksN]
theorem marksN_set (n : Nat) (m : Nat → Bool) (x : Nat) : (marksN n m).set x (.bool true) = marksN n fun y => m y || y == x := by
  apply List.ext_getElem
  · simp [marksN]
  · intro i h1 h2
    rw [List.getElem_set]
    by_cases e : x = i
    · subst e; simp [marksN]
    · rw [if_neg e]
      have : (i == x) = false := by simp; omega
      simp [marksN, this]
def MarksN (w : World) (g n : Nat) (m : Nat → Bool) : Prop := BlkIs w g 4 (marksN n m)
theorem MarksN.set_ {w : World} {g n : Nat} {m : Nat → Bool} (h : MarksN w g n m) (x : Nat) : MarksN (w.setCell ⟨g, x, none⟩ (.bool true)) g n (fun y => m y || y == x) := by
  have := BlkIs.set_ h x (.bool true); rw [marksN_set] at this; exact this
theorem MarksN.cell {w : World} {g n : Nat} {m : Nat → Bool} (h : MarksN w g n m) {x : Nat} (hx : x < n) : w.cell? ⟨g, x, none⟩ = some (.bool (m x)) := by
  rw [BlkIs.cell h, marksN_at n m hx]
theorem info4 : (Try.prog.info? 4).map (fun i => (i.zero, i.size, i.bytes)) = some (some (.bool false), 1, 1) := by kernel_rfl
theorem made_bools (n : Nat) : (madeCells #[Value.bool false] n).toList = marksN n (fun _ => false) := by
  apply List.ext_getElem
  · simp [size_madeCells, marksN]
  · intro i h1 h2; simp [madeCells, marksN, Nat.mod_one]
theorem make_bools (n : Nat) (hn : n ≤ 256) : ∃ M : Array Value, M.toList = marksN n (fun _ => false) ∧ ∀ W : World, (Instr.makeSlice 57 (.int .i64 (n : Int)) (.int .i64 (n : Int))).run Try.prog W = .ok (.slice (some ⟨W.heap.size, 0, none⟩) n n) (W.alloc (.cells M 4)) := by
  obtain ⟨i0, hi0, hz0, hz1, hz2⟩ := info_parts info4
  refine ⟨madeCells #[Value.bool false] n, made_bools n, fun W => ?_⟩
  have := run_makeSlice (P := Try.prog) W 57 4 i0 (.bool false) Try.underlying57 hi0 hz0 .i64 .i64 n n (by omega) (Int.le_refl _) (by rw [hz1]; omega) (by rw [hz2]; omega) (by omega)
  rw [hz1] at this
  simpa [Value.cells] using this
theorem MarksN.made (W : World) (n : Nat) (M : Array Value) (h : M.toList = marksN n (fun _ => false)) : MarksN (W.alloc (.cells M 4)) W.heap.size n (fun _ => false) := by
  have := BlkIs.new W 4 M
  rw [h] at this
  exact this

set_option maxRecDepth 100000 in
set_option maxHeartbeats 1000000 in
theorem those_any (g n c : Nat) (m : Nat → Bool) (w : World) (hn : n ≤ 256) (hM : MarksN w g n m) :
    Calls Try.prog 44 #[.slice (some ⟨g, 0, none⟩) n c] w fun e w' => ∃ v, e = .returned v ∧ w'.ownsRow w.heap.size 3 1 v (listM n m).length (natsV (listM n m)) ∧ Below w.heap.size w w' := by
  obtain ⟨i0, hi, hz0, hz1, hz2⟩ := info_parts info3
  have HM := Lib.hid hM
  have hgl := BlkIs.lt hM
  clear hM
  go_enter Try.func44, Try.ntmps44
  go_wp2_with fail
  go_loopw [3, 4] (fun v i wr => ∃ k : Nat, k ≤ n ∧ i = .int .i64 k ∧ wr.ownsRow w.heap.size 3 1 v (listM k m).length (natsV (listM k m)) ∧ Below w.heap.size w wr) (fun _ i _ => n - (intOf i).toNat)
  case atStart => exact ⟨0, Nat.zero_le _, rfl, World.ownsRow_nil _ _ _ _, Below.refl _ _⟩
  case round =>
    obtain ⟨k, hk, rfl, hown, hB⟩ := hrel
    rename World => wr
    by_cases hlt : k < n
    · have hlti : (k : Int) < (n : Int) := by omega
      have hk0 : (0 : Int) ≤ (k : Int) := by omega
      have hcell := (MarksN.cell (BlkIs.below HM.out hB hgl) hlt)
      have hs := listM_succ k m
      have hcl := length_listM k m
      have hsz := hB.size
      cases hv : m k with
      | false =>
        rw [hv] at hcell hs
        simp only [Bool.false_eq_true, if_false, List.append_nil] at hs
        have Hs := Lib.hid hs
        clear hs hv
        go_wp2_with fail
        go_roundw
        case rel => exact ⟨k + 1, by omega, by go_num, by rw [Hs.out]; exact hown, hB⟩
        case measure => simp [intOf]; omega
      | true =>
        rw [hv] at hcell hs
        simp only [if_true] at hs
        have Hs := Lib.hid hs
        clear hs hv
        go_wp2_with (at_builtin; refine wpList_append_own _ rfl _ _ 35 rfl w.heap.size 3 i0 (.int .i64 0) 1 8 Try.underlying35 hi hz0 hz1 hz2 rfl (by decide) _ _ _ rfl (hown.alloc _) ⟨wr.heap.size, 0, none⟩ 1 1 [.int .i64 (k : Int)] rfl rfl (cell_one_new _ _ _) (by simp [Value.oneCell']) (by unfold maxLen; omega) (by omega) (by simp; omega) ?_)
        intro v' w1 hown' hgrow _
        have hB1 : Below w.heap.size w w1 := hB.trans ((((Below.refl _ wr).alloc hsz _)).grown hgrow (by simp; omega) (fun j e => (hown.lt j e).1))
        go_wp2_with fail
        go_roundw
        case rel => exact ⟨k + 1, by omega, by go_num, by rw [Hs.out]; simpa [natsV] using hown', hB1⟩
        case measure => simp [intOf]; omega
    · have hlti : ¬ (k : Int) < (n : Int) := by omega
      obtain rfl : k = n := by omega
      go_wp2_with fail
      go_ret
      exact ⟨_, rfl, hown, hB⟩

theorem refright_yes (A : Option Addr) (c kD : Nat) (D : List (List Nat)) (hk : kD = D.length) (hD : OkD D) (w : World) (hM : Mat w w.heap.size A (rowsI D)) :
    Calls Try.prog 38 #[.slice A kD c] w fun e w' => e = .returned (.bool true) ∧ w = w' := by
  subst hk
  have h := refright_any A c (rowsI D) w (by rw [length_rowsI]; have := hD.right.1; omega) (fun k _ => by rw [rowI_rowsI, length_natsI]; have := hD.len k; omega) hM
  rwa [okB_of hD, length_rowsI] at h
theorem refright_no (A : Option Addr) (c k : Nat) (R : List (List Int)) (hk : k = R.length) (hok : okB R = false) (w : World) (hl : R.length ≤ 1000) (hr : ∀ k, k < R.length → (rowI R k).length ≤ 1000) (hM : Mat w w.heap.size A R) :
    Calls Try.prog 38 #[.slice A k c] w fun e w' => e = .returned (.bool false) ∧ w = w' := by
  subst hk
  have h := refright_any A c R w hl hr hM
  rwa [hok] at h
set_option maxRecDepth 100000 in
set_option maxHeartbeats 1000000 in
theorem refclose_no (A : Option Addr) (c k : Nat) (R : List (List Int)) (hk : k = R.length) (hok : okB R = false) (v2 : Value) (w : World) (hl : R.length ≤ 1000) (hr : ∀ k, k < R.length → (rowI R k).length ≤ 1000) (hM : Mat w w.heap.size A R) :
    Calls Try.prog 42 #[.slice A k c, v2] w fun e w' => e = .returned (.slice none 0 0) ∧ w = w' := by
  have H := Lib.hid (refright_no A c k R hk hok w hl hr hM)
  clear hk hok hr hM
  go_enter Try.func42, Try.ntmps42
  go_wp2_with (go_at_call 38; refine H.out.mono ?_; rintro e w' ⟨rfl, rfl⟩)
  go_ret
  exact ⟨rfl, rfl⟩

set_option maxRecDepth 100000 in
set_option maxHeartbeats 2000000 in
theorem refclose_yes (A : Option Addr) (c kD : Nat) (D : List (List Nat)) (hkD : kD = D.length) (hD : OkD D) (A2 : Option Addr) (c2 k2 : Nat) (l : List Int) (hk2 : k2 = l.length) (hl : l.length ≤ 100000) (w : World)
    (hM : Mat w w.heap.size A (rowsI D)) (hI : Ints w w.heap.size A2 l) :
    Calls Try.prog 42 #[.slice A kD c, .slice A2 k2 c2] w fun e w' => ∃ v, e = .returned v ∧ w'.ownsRow w.heap.size 3 1 v (closeL D l).length (natsV (closeL D l)) ∧ Below w.heap.size w w' := by
  subst hkD hk2
  have HR := Lib.hid (refright_yes A c D.length D rfl hD w hM)
  obtain ⟨M, hMl, hmk⟩ := make_bools D.length hD.right.1
  have HMl := Lib.hid hMl
  have HM := Lib.hid hM
  have HI := Lib.hid hI
  have HDo := Lib.hid hD
  have hD256 := hD.right.1
  clear hMl hM hI hD
  go_enter Try.func42, Try.ntmps42
  go_wp2_with (go_at_call 38; refine HR.out.mono ?_; rintro e w' ⟨rfl, rfl⟩)
  clear hmk
  go_loopw [6] (fun i wr => ∃ k : Nat, k ≤ l.length ∧ i = .int .i64 k ∧ MarksN wr w.heap.size D.length (markI D.length (l.take k)) ∧ Below w.heap.size w wr) (fun i _ => l.length - (intOf i).toNat)
  case atStart =>
    refine ⟨0, Nat.zero_le _, rfl, ?_, (Below.refl _ _).alloc (Nat.le_refl _) _⟩
    rw [List.take_zero, markI_nil]
    exact MarksN.made w _ M HMl.out
  case round =>
    obtain ⟨k, hk, rfl, hmk, hB⟩ := hrel
    rename World => wr
    by_cases hlt : k < l.length
    · have hlti : (k : Int) < (l.length : Int) := by omega
      have hk0 : (0 : Int) ≤ (k : Int) := by omega
      obtain ⟨b, off, rfl, hb, hcw⟩ := HI.out.at_ hlt
      have hc := (Below.cell hB (p := ⟨b, off + k, none⟩) hb).trans hcw
      have Htk := Lib.hid (take_nth l k hlt)
      obtain ⟨x, hx⟩ : ∃ x, x = nth l k := ⟨_, rfl⟩
      rw [← hx] at hc Htk
      have Hmk := Lib.hid hmk
      clear hmk hx hcw
      by_cases hx0 : 0 ≤ x
      · by_cases hxn : x < (D.length : Int)
        · obtain ⟨y, rfl⟩ := Int.eq_ofNat_of_zero_le hx0
          have hyn : y < D.length := by omega
          have hcell := Hmk.out.cell hyn
          have hfr := BlkIs.frozen Hmk.out y
          go_wp2_with fail
          go_roundw
          case rel =>
            refine ⟨k + 1, by omega, by go_num, ?_, hB.setCell (p := ⟨w.heap.size, y, none⟩) (Nat.le_refl _) _⟩
            rw [Htk.out, markI_hit hyn]
            exact Hmk.out.set_ y
          case measure => simp [intOf]; omega
        · have Hno : Hid (markI D.length (l.take k ++ [x]) = markI D.length (l.take k)) := markI_miss (fun h => hxn h.2)
          go_wp2_with fail
          go_roundw
          case rel => exact ⟨k + 1, by omega, by go_num, by rw [Htk.out, Hno.out]; exact Hmk.out, hB⟩
          case measure => simp [intOf]; omega
      · have Hno : Hid (markI D.length (l.take k ++ [x]) = markI D.length (l.take k)) := markI_miss (fun h => hx0 h.1)
        have hx1 : x < 0 := by omega
        go_wp2_with fail
        go_roundw
        case rel => exact ⟨k + 1, by omega, by go_num, by rw [Htk.out, Hno.out]; exact Hmk.out, hB⟩
        case measure => simp [intOf]; omega
    · have hlti : ¬ (k : Int) < (l.length : Int) := by omega
      obtain rfl : k = l.length := by omega
      rw [List.take_length] at hmk
      obtain ⟨m, hm⟩ : ∃ m, m = markI D.length l := ⟨_, rfl⟩
      rw [← hm] at hmk
      have Hm := Lib.hid hm
      have Hmk := Lib.hid hmk
      have HB := Lib.hid hB
      clear hm hmk hB
      go_wp2_with fail
      go_loopw [7] (fun i w2 => ∃ j : Nat, j ≤ D.length ∧ i = .int .i64 ((D.length : Int) - 1 - (j : Int)) ∧ MarksN w2 w.heap.size D.length (foldR D m (fallS D m D.length j)) ∧ Below w.heap.size w w2) (fun i _ => (intOf i + 1).toNat)
      case atStart => exact ⟨0, Nat.zero_le _, by simp, Hmk.out, HB.out⟩
      case round =>
        obtain ⟨j, hj, rfl, hmj, hBj⟩ := hrel
        rename World => w2
        by_cases hlt2 : j < D.length
        · obtain ⟨x, hx⟩ : ∃ x, x = D.length - 1 - j := ⟨_, rfl⟩
          have hxD : x < D.length := by omega
          have ex : (D.length : Int) - 1 - (j : Int) = (x : Int) := by omega
          have En : Hid ((x : Int) - 1 = (D.length : Int) - 1 - ((j + 1 : Nat) : Int)) := by show _ = _; omega
          have hxi : (x : Int) < (D.length : Int) := by omega
          have hx256 : (x : Int) < 256 := by omega
          have hx0 : (0 : Int) ≤ (x : Int) := by omega
          have Hhit := Lib.hid (@fallS_hit D m D.length j)
          have Hmiss := Lib.hid (@fallS_miss D m D.length j)
          rw [← hx] at Hhit Hmiss
          rw [ex]
          obtain ⟨b, off, Ak, ck, rfl, hb, hcw, hIw⟩ := HM.out.at_ (k := x) (by rw [length_rowsI]; exact hxD)
          have hc := (Below.cell hBj (p := ⟨b, off + x, none⟩) hb).trans hcw
          rw [rowI_rowsI, length_natsI] at hc
          rw [rowI_rowsI] at hIw
          have hrl := HDo.out.len x
          have hrlt := HDo.out.right.2 x
          have Hfs := Lib.hid (foldR_snoc D m (fallS D m D.length j) x)
          obtain ⟨row, hrow⟩ : ∃ row, row = rowN D x := ⟨_, rfl⟩
          rw [← hrow] at hc hIw hrl hrlt Hfs
          obtain ⟨c0, hc0⟩ : ∃ c0, c0 = foldR D m (fallS D m D.length j) := ⟨_, rfl⟩
          rw [← hc0] at hmj Hhit Hmiss Hfs
          have Hc0 := Lib.hid hc0
          have HIw := Lib.hid hIw
          have Hrlt := Lib.hid hrlt
          have Hmj := Lib.hid hmj
          have HBj := Lib.hid hBj
          have hcx := hmj.cell hxD
          clear hx ex hcw hIw hrlt hrow hc0 hmj hBj
          cases hv : c0 x with
          | false =>
            have Hs := Lib.hid (Hmiss.out hv)
            rw [hv] at hcx
            clear hv
            go_wp2_with fail
            go_loop [8] (fun i => ∃ q : Nat, q ≤ row.length ∧ i = .int .i64 q) (fun i => row.length - (intOf i).toNat)
            case atStart => exact ⟨0, Nat.zero_le _, rfl⟩
            case round =>
              obtain ⟨q, hq, rfl⟩ := hrel
              by_cases hltq : q < row.length
              · have hltqi : (q : Int) < (row.length : Int) := by omega
                go_wp2_with fail
                go_round
                case rel => exact ⟨q + 1, by omega, by go_num⟩
                case measure => simp [intOf]; omega
              · have hltqi : ¬ (q : Int) < (row.length : Int) := by omega
                go_wp2_with fail
                go_roundw
                case rel => exact ⟨j + 1, by omega, by rw [En.out], by rw [Hs.out, ← Hc0.out]; exact Hmj.out, HBj.out⟩
                case measure => simp [intOf]
          | true =>
            have Hs := Lib.hid (Hhit.out hv)
            have Hv := Lib.hid hv
            clear hv hcx
            go_wp2_with fail
            go_loopw [8] (fun i w3 => ∃ q : Nat, q ≤ row.length ∧ i = .int .i64 q ∧ MarksN w3 w.heap.size D.length (addAll c0 (row.take q)) ∧ Below w.heap.size w w3) (fun i _ => row.length - (intOf i).toNat)
            case atStart => exact ⟨0, Nat.zero_le _, rfl, by rw [List.take_zero, addAll_nil]; exact Hmj.out, HBj.out⟩
            case round =>
              obtain ⟨q, hq, rfl, hmq, hBq⟩ := hrel
              rename World => w3
              by_cases hltq : q < row.length
              · have hltqi : (q : Int) < (row.length : Int) := by omega
                have hq0 : (0 : Int) ≤ (q : Int) := by omega
                obtain ⟨bj, oj, rfl, hbj, hcj⟩ := HIw.out.at_ (k := q) (by rw [length_natsI]; exact hltq)
                rw [nth_nats row q hltq] at hcj
                have hc3 := (Below.cell hBq (p := ⟨bj, oj + q, none⟩) hbj).trans hcj
                obtain ⟨b', off', Ak', ck', ex', hb', hcw', _⟩ := HM.out.at_ (k := x) (by rw [length_rowsI]; exact hxD)
                have htk := take_el row q hltq
                have hdx := Hrlt.out (el row q) (by rw [el_lt hltq]; exact List.getElem_mem _)
                obtain ⟨d, hd⟩ : ∃ d, d = el row q := ⟨_, rfl⟩
                rw [← hd] at hc3 htk hdx
                have Htk := Lib.hid htk
                have hdi : (d : Int) < (D.length : Int) := by omega
                have hd0 : (0 : Int) ≤ (d : Int) := by omega
                have hcx := hmq.cell hxD
                have hax : addAll c0 (row.take q) x = true := addAll_true.2 (.inl Hv.out)
                rw [hax] at hcx
                have hcd := hmq.cell (x := d) (by omega)
                have hfr := BlkIs.frozen hmq d
                have hcR : w3.cell? ⟨b, off + x, none⟩ = some (.slice (some ⟨bj, oj, none⟩) row.length ck) := by
                  have h2 := (Below.cell HBj.out (p := ⟨b, off + x, none⟩) hb).symm.trans hc
                  exact (Below.cell hBq (p := ⟨b, off + x, none⟩) hb).trans h2
                have Hmq := Lib.hid hmq
                have HBq := Lib.hid hBq
                clear htk hd hax hcj hmq hBq hc ex' hcw'
                go_wp2_with fail
                go_roundw
                case rel =>
                  refine ⟨q + 1, by omega, by go_num, ?_, HBq.out.setCell (p := ⟨w.heap.size, d, none⟩) (Nat.le_refl _) _⟩
                  rw [Htk.out, addAll_snoc]
                  exact Hmq.out.set_ d
                case measure => simp [intOf]; omega
              · have hltqi : ¬ (q : Int) < (row.length : Int) := by omega
                obtain rfl : q = row.length := by omega
                rw [List.take_length] at hmq
                have hcR : w3.cell? ⟨b, off + x, none⟩ = some (.slice Ak row.length ck) := by
                  have h2 := (Below.cell HBj.out (p := ⟨b, off + x, none⟩) hb).symm.trans hc
                  exact (Below.cell hBq (p := ⟨b, off + x, none⟩) hb).trans h2
                have Hmq := Lib.hid hmq
                have HBq := Lib.hid hBq
                clear hmq hBq hc
                go_wp2_with fail
                go_roundw
                case rel => exact ⟨j + 1, by omega, by rw [En.out], by rw [Hs.out, Hfs.out]; exact Hmq.out, HBq.out⟩
                case measure => simp [intOf]
        · have hj' : j = D.length := by omega
          have Hu : Hid (foldR D m (fallS D m D.length j) = upM D m D.length) := by unfold Hid upM; rw [hj']
          rw [Hu.out] at hmj
          have hin : (D.length : Int) - 1 - (j : Int) = -1 := by omega
          rw [hin]
          have Hth := Lib.hid (those_any w.heap.size D.length D.length _ w2 hD256 hmj)
          have Hcl : Hid (closeL D l = listM D.length (upM D m D.length)) := by unfold Hid closeL; rw [Hm.out]
          have HBj := Lib.hid hBj
          clear hmj hBj hj' hin
          go_wp2_with fail
          refine Hth.out.mono ?_
          rintro e w5 ⟨v5, rfl, hown, hB5⟩
          rw [← Hcl.out] at hown
          have HO := Lib.hid (own_mono hown HBj.out.size)
          have HB5 := Lib.hid (HBj.out.trans (hB5.mono HBj.out.size))
          clear hown hB5
          go_wp2_with fail
          go_ret
          exact ⟨_, rfl, HO.out, HB5.out⟩
end Go.Proofs.Ythffdkoncagimaa
