/- The document's has, without, with, same. -/
import Derived.Test.YtpcindemkkdbbaaT
import Derived.Maps.AppendAt
namespace Go.Proofs.Ytpcindemkkdbbaa
set_option linter.unusedVariables false
set_option linter.unusedSimpArgs false
open Go.RowKit

theorem info3 : (Try.prog.info? 3).map (fun i => (i.zero, i.size, i.bytes)) = some (some (.int .i64 0), 1, 8) := by kernel_rfl
theorem mem_nth {l : List Int} {x : Int} (h : x ∈ l) : ∃ j, j < l.length ∧ nth l j = x := by
  obtain ⟨j, hj, e⟩ := List.getElem_of_mem h
  exact ⟨j, hj, by rw [nth_lt hj, e]⟩
set_option maxRecDepth 100000 in
set_option maxHeartbeats 1000000 in
theorem refhas_any (A : Option Addr) (c n : Nat) (l : List Int) (x : Int) (hn : n = l.length) (w : World) (hl : l.length ≤ 100000) (hI : Ints w w.heap.size A l) :
    Calls Try.prog 57 #[.slice A n c, .int .i64 x] w fun e w' => e = .returned (.bool (l.contains x)) ∧ w = w' := by
  have Hn := Lib.hid hn
  have HI := Lib.hid hI
  have hn1 : n ≤ 100000 := by omega
  have HY : Hid (∀ k, k < n → nth l k = x → l.contains x = true) := fun k hk e => by rw [List.contains_iff_mem, ← e]; exact nth_mem (by omega)
  have HN : Hid ((∀ j, j < n → nth l j ≠ x) → l.contains x = false) := fun h => by
    rw [Bool.eq_false_iff]; intro t
    obtain ⟨j, hj, e⟩ := mem_nth (List.contains_iff_mem.1 t)
    exact h j (by omega) e
  obtain ⟨R, hR⟩ : ∃ R, R = l.contains x := ⟨_, rfl⟩
  rw [← hR] at HY HN ⊢
  clear hI hn hl hR
  go_enter Try.func57, Try.ntmps57
  go_wp2
  go_loop [5] (fun i => ∃ k : Nat, k ≤ n ∧ i = .int .i64 k ∧ ∀ j, j < k → nth l j ≠ x) (fun i => n - (intOf i).toNat)
  case atStart => exact ⟨0, Nat.zero_le _, rfl, fun j hj => absurd hj (Nat.not_lt_zero _)⟩
  case round =>
    obtain ⟨k, hk, rfl, hne⟩ := hrel
    have Hne := Lib.hid hne
    clear hne
    by_cases hlt : k < n
    · have hlti : (k : Int) < (n : Int) := by omega
      have hk0 : (0 : Int) ≤ (k : Int) := by omega
      obtain ⟨b, off, rfl, hb, hc⟩ := HI.out (by rw [← Hn.out]; omega)
      replace hc := hc k (by rw [← Hn.out]; exact hlt)
      have HYk := Lib.hid (HY.out k hlt)
      by_cases he : nth l k = x
      · rw [he] at hc
        have Hf := Lib.hid (HYk.out he)
        clear he
        go_wp2
        go_ret
        exact ⟨ret_bool Hf.out.symm, rfl⟩
      · have He := Lib.hid he
        obtain ⟨y, hy⟩ : ∃ y, y = nth l k := ⟨_, rfl⟩
        rw [← hy] at hc he
        have hee : (y == x) = false := by simpa using he
        clear hy he
        go_wp2
        go_round
        case rel => exact ⟨k + 1, by omega, by go_num, fun j hj => by
          by_cases e : j = k
          · rw [e]; exact He.out
          · exact Hne.out j (by omega)⟩
        case measure => simp [intOf]; omega
    · have hlti : ¬ (k : Int) < (n : Int) := by omega
      obtain rfl : k = n := by omega
      have Hf := Lib.hid (HN.out Hne.out)
      go_wp2
      go_ret
      exact ⟨ret_bool Hf.out.symm, rfl⟩

/-- numbers of one's own -/
def IntsSays (w : World) (l : List Int) (e : Ending) (w' : World) : Prop := ∃ A' c', e = .returned (.slice A' l.length c') ∧ RowI w' w.heap.size A' c' l ∧ Below w.heap.size w w'
theorem intsV_append' (a b : List Int) : intsV (a ++ b) = intsV a ++ intsV b := by simp [intsV]
theorem withoutI_snoc (l : List Int) (q x : Int) : withoutI (l ++ [q]) x = withoutI l x ++ (if q = x then [] else [q]) := by
  unfold withoutI; rw [List.filter_append]; by_cases e : q = x <;> simp [e]
theorem withoutI_len (l : List Int) (x : Int) : (withoutI l x).length ≤ l.length := List.length_filter_le _ _
set_option maxRecDepth 100000 in
set_option maxHeartbeats 1000000 in
theorem refwithout_any (A : Option Addr) (c n : Nat) (l : List Int) (x : Int) (hn : n = l.length) (w : World) (hl : l.length ≤ 100000) (hI : Ints w w.heap.size A l) :
    Calls Try.prog 62 #[.slice A n c, .int .i64 x] w (IntsSays w (withoutI l x)) := by
  obtain ⟨i0, hi, hz0, hz1, hz2⟩ := info_parts info3
  have Hn := Lib.hid hn
  have HI := Lib.hid hI
  have hn1 : n ≤ 100000 := by omega
  clear hI hn hl
  go_enter Try.func62, Try.ntmps62
  go_wp2_with fail
  go_loopw [5, 6] (fun v i wr => ∃ k : Nat, k ≤ n ∧ i = .int .i64 k ∧ wr.ownsRow w.heap.size 3 1 v (withoutI (l.take k) x).length (intsV (withoutI (l.take k) x)) ∧ Below w.heap.size w wr) (fun _ i _ => n - (intOf i).toNat)
  case atStart => exact ⟨0, Nat.zero_le _, rfl, World.ownsRow_nil _ _ _ _, Below.refl _ _⟩
  case round =>
    obtain ⟨k, hk, rfl, hown, hB⟩ := hrel
    rename World => wr
    by_cases hlt : k < n
    · have hlti : (k : Int) < (n : Int) := by omega
      have hk0 : (0 : Int) ≤ (k : Int) := by omega
      have hkl : k < l.length := by rw [← Hn.out]; exact hlt
      obtain ⟨b, off, rfl, hb, hc⟩ := HI.out (by omega)
      have hck : wr.cell? ⟨b, off + k, none⟩ = some (.int .i64 (nth l k)) := (hB.cell (p := ⟨b, off + k, none⟩) hb).trans (hc k hkl)
      have hsn : withoutI (l.take (k + 1)) x = withoutI (l.take k) x ++ (if nth l k = x then [] else [nth l k]) := by rw [take_nth hkl, withoutI_snoc]
      have hlen : (withoutI (l.take k) x).length ≤ 100000 := by have := withoutI_len (l.take k) x; rw [List.length_take] at this; omega
      have Hsn := Lib.hid hsn
      obtain ⟨p, hp⟩ : ∃ p, p = withoutI (l.take k) x := ⟨_, rfl⟩
      rw [← hp] at hown hlen Hsn
      obtain ⟨y, hy⟩ : ∃ y, y = nth l k := ⟨_, rfl⟩
      rw [← hy] at hck Hsn
      have hsz := hB.size
      clear hc hsn hp hy hkl
      by_cases he : y = x
      · subst he
        rw [if_pos rfl, List.append_nil] at Hsn
        have HB := Lib.hid hB
        have Ho := Lib.hid hown
        clear hB hown
        go_wp2_with fail
        go_roundw
        case rel => exact ⟨k + 1, by omega, by go_num, by rw [Hsn.out]; exact Ho.out, HB.out⟩
        case measure => simp [intOf]; omega
      · rw [if_neg he] at Hsn
        have hee : (y == x) = false := by simpa using he
        have hee2 : (y != x) = true := by simpa using he
        clear he
        go_wp2_with (at_builtin; refine wpList_append_own _ rfl _ _ 22 rfl w.heap.size 3 i0 (.int .i64 0) 1 8 Try.underlying22 hi hz0 hz1 hz2 rfl (by decide) _ _ _ rfl (hown.alloc _) ⟨wr.heap.size, 0, none⟩ 1 1 [.int .i64 y] rfl rfl (cell_one_new _ _ _) (by simp [Value.oneCell']) (by unfold maxLen; omega) (by omega) (by simp; omega) ?_)
        intro v' w1 hown' hgrow _
        have hB1 : Below w.heap.size w w1 := hB.trans ((((Below.refl _ wr).alloc hsz _)).grown hgrow (by simp; omega) (fun j e => (hown.lt j e).1))
        have Ho := Lib.hid hown'
        have HB := Lib.hid hB1
        clear hown' hgrow hB1 hown hB
        go_wp2_with fail
        go_roundw
        case rel => exact ⟨k + 1, by omega, by go_num, by rw [Hsn.out, intsV_append', List.length_append]; exact Ho.out, HB.out⟩
        case measure => simp [intOf]; omega
    · have hlti : ¬ (k : Int) < (n : Int) := by omega
      obtain rfl : k = n := by omega
      rw [Hn.out, List.take_length] at hown
      obtain ⟨_, A', c', rfl, hr⟩ := own_ints hown
      have Hr := Lib.hid hr
      have HB := Lib.hid hB
      clear hown hr hB
      go_wp2_with fail
      go_ret
      exact ⟨A', c', rfl, Hr.out, HB.out⟩

theorem withI_snoc {l : List Int} {q x : Int} (h : ¬ q < x) : withI (l ++ [q]) x = withI l x ++ [q] := by
  have hp : posI (l ++ [q]) x = posI l x := by simp [posI, List.countP_append, h]
  have hle := posI_le l x
  unfold withI
  rw [hp, List.take_append_of_le_length hle, List.drop_append_of_le_length hle]
  simp
theorem withI_end {l : List Int} {x : Int} (h : ∀ y ∈ l, y < x) : withI l x = l ++ [x] := by
  have hp : posI l x = l.length := by unfold posI; rw [List.countP_eq_length]; intro y hy; simpa using h y hy
  unfold withI
  rw [hp]; simp
/-- what lies in the row behind k numbers: x is there, or not -/
def refW (l : List Int) (x : Int) (k : Nat) (p : Bool) : List Int := if p then withI (l.take k) x else l.take k
structure WithSt (l : List Int) (x : Int) (k : Nat) (p : Bool) : Prop where
  no : p = false → ∀ j, j < k → nth l j < x
  yes : p = true → ∃ j, j < k ∧ x < nth l j
theorem refW_step {l : List Int} {x : Int} {k : Nat} (hs : l.Pairwise (· < ·)) (hk : k < l.length) (h : WithSt l x k true) : WithSt l x (k + 1) true ∧ refW l x (k + 1) true = refW l x k true ++ [nth l k] := by
  obtain ⟨j, hj, hx⟩ := h.yes rfl
  have hlt : nth l j < nth l k := by rw [nth_lt (by omega), nth_lt hk]; exact List.pairwise_iff_getElem.1 hs j k (by omega) hk hj
  refine ⟨⟨fun e => (by cases e), fun _ => ⟨j, by omega, hx⟩⟩, ?_⟩
  unfold refW
  rw [if_pos rfl, if_pos rfl, take_nth hk, withI_snoc (by omega)]
theorem refW_pass {l : List Int} {x : Int} {k : Nat} (hk : k < l.length) (h : WithSt l x k false) (hx : nth l k < x) : WithSt l x (k + 1) false ∧ refW l x (k + 1) false = refW l x k false ++ [nth l k] := by
  refine ⟨⟨fun _ j hj => ?_, fun e => by cases e⟩, ?_⟩
  · by_cases e : j = k
    · rw [e]; exact hx
    · exact h.no rfl j (by omega)
  · unfold refW
    rw [if_neg (by decide), if_neg (by decide), take_nth hk]
theorem refW_put {l : List Int} {x : Int} {k : Nat} (hk : k < l.length) (h : WithSt l x k false) (hx : x < nth l k) : WithSt l x (k + 1) true ∧ refW l x (k + 1) true = refW l x k false ++ [x] ++ [nth l k] := by
  refine ⟨⟨fun e => (by cases e), fun _ => ⟨k, by omega, hx⟩⟩, ?_⟩
  unfold refW
  rw [if_pos rfl, if_neg (by decide), take_nth hk, withI_snoc (by omega), withI_end]
  intro y hy
  obtain ⟨j, hj, rfl⟩ := mem_nth hy
  rw [List.length_take] at hj
  rw [nth_take (by omega) (by omega)]
  exact h.no rfl j (by omega)
theorem refW_len (l : List Int) (x : Int) (k : Nat) (p : Bool) : (refW l x k p).length ≤ k + 1 := by
  unfold refW
  split
  · rw [length_withI, List.length_take]; omega
  · rw [List.length_take]; omega
theorem refW_done {l : List Int} {x : Int} (h : WithSt l x l.length false) : withI l x = l ++ [x] := withI_end fun y hy => by
  obtain ⟨j, hj, rfl⟩ := mem_nth hy
  exact h.no rfl j hj

set_option maxRecDepth 100000 in
set_option maxHeartbeats 2000000 in
theorem refwith_any (A : Option Addr) (c n : Nat) (l : List Int) (x : Int) (hn : n = l.length) (w : World) (hl : l.length ≤ 100000) (hs : l.Pairwise (· < ·)) (hx : x ∉ l) (hI : Ints w w.heap.size A l) :
    Calls Try.prog 58 #[.slice A n c, .int .i64 x] w (IntsSays w (withI l x)) := by
  obtain ⟨i0, hi, hz0, hz1, hz2⟩ := info_parts info3
  have Hn := Lib.hid hn
  have HI := Lib.hid hI
  have Hs := Lib.hid hs
  have hn1 : n ≤ 100000 := by omega
  have HX : Hid (∀ k, k < l.length → nth l k ≠ x) := fun k hk e => hx (e ▸ nth_mem hk)
  clear hI hn hl hs hx
  go_enter Try.func58, Try.ntmps58
  go_wp2_with fail
  go_loopw [5, 6, 7] (fun v pl i wr => ∃ k : Nat, k ≤ n ∧ i = .int .i64 k ∧ ∃ p : Bool, pl = .bool p ∧ WithSt l x k p ∧ wr.ownsRow w.heap.size 3 1 v (refW l x k p).length (intsV (refW l x k p)) ∧ Below w.heap.size w wr) (fun _ _ i _ => n - (intOf i).toNat)
  case atStart => exact ⟨0, Nat.zero_le _, rfl, false, rfl, ⟨fun _ j hj => absurd hj (Nat.not_lt_zero _), fun e => by cases e⟩, World.ownsRow_nil _ _ _ _, Below.refl _ _⟩
  case round =>
    obtain ⟨k, hk, rfl, p, rfl, hst, hown, hB⟩ := hrel
    rename World => wr
    by_cases hlt : k < n
    · have hlti : (k : Int) < (n : Int) := by omega
      have hk0 : (0 : Int) ≤ (k : Int) := by omega
      have hkl : k < l.length := by rw [← Hn.out]; exact hlt
      obtain ⟨b, off, rfl, hb, hc⟩ := HI.out (by omega)
      have hck : wr.cell? ⟨b, off + k, none⟩ = some (.int .i64 (nth l k)) := (hB.cell (p := ⟨b, off + k, none⟩) hb).trans (hc k hkl)
      have hck2 : ∀ W, Below wr.heap.size wr W → W.cell? ⟨b, off + k, none⟩ = some (.int .i64 (nth l k)) := fun W hW => ((hB.trans (hW.mono hB.size)).cell (p := ⟨b, off + k, none⟩) hb).trans (hc k hkl)
      have hlen := refW_len l x k p
      have hne := HX.out k hkl
      have hsz := hB.size
      have HB := Lib.hid hB
      cases p with
      | true =>
        obtain ⟨h1, h2⟩ := refW_step Hs.out hkl hst
        have H1 := Lib.hid h1
        have H2 := Lib.hid h2
        obtain ⟨q, hq⟩ : ∃ q, q = refW l x k true := ⟨_, rfl⟩
        rw [← hq] at hown hlen H2
        obtain ⟨y, hy⟩ : ∃ y, y = nth l k := ⟨_, rfl⟩
        rw [← hy] at hck H2
        clear hc hck2 h1 h2 hq hy hst hne hkl
        go_wp2_with (at_builtin; refine wpList_append_own _ rfl _ _ 22 rfl w.heap.size 3 i0 (.int .i64 0) 1 8 Try.underlying22 hi hz0 hz1 hz2 rfl (by decide) _ _ _ rfl (hown.alloc _) ⟨wr.heap.size, 0, none⟩ 1 1 [.int .i64 y] rfl rfl (cell_one_new _ _ _) (by simp [Value.oneCell']) (by unfold maxLen; omega) (by omega) (by simp; omega) ?_)
        intro v' w1 hown' hgrow _
        have hB1 : Below w.heap.size w w1 := HB.out.trans ((((Below.refl _ wr).alloc hsz _)).grown hgrow (by simp; omega) (fun j e => (hown.lt j e).1))
        have Ho := Lib.hid hown'
        have HB1 := Lib.hid hB1
        clear hown' hgrow hB1 hown hB
        go_wp2_with fail
        go_roundw
        case rel => exact ⟨k + 1, by omega, by go_num, true, rfl, H1.out, by rw [H2.out, intsV_append', List.length_append]; exact Ho.out, HB1.out⟩
        case measure => simp [intOf]; omega
      | false =>
        by_cases hxy : x < nth l k
        · obtain ⟨h1, h2⟩ := refW_put hkl hst hxy
          have H1 := Lib.hid h1
          have H2 := Lib.hid h2
          obtain ⟨q, hq⟩ : ∃ q, q = refW l x k false := ⟨_, rfl⟩
          rw [← hq] at hown hlen H2
          obtain ⟨y, hy⟩ : ∃ y, y = nth l k := ⟨_, rfl⟩
          rw [← hy] at hck H2 hxy
          have Hck2 : Hid (w.cell? ⟨b, off + k, none⟩ = some (.int .i64 y)) := by unfold Hid; rw [hy]; exact hc k hkl
          clear hc hck2 h1 h2 hq hy hst hne hkl
          go_wp2_with (at_builtin; refine wpList_append_own _ rfl _ _ 22 rfl w.heap.size 3 i0 (.int .i64 0) 1 8 Try.underlying22 hi hz0 hz1 hz2 rfl (by decide) _ _ _ rfl (hown.alloc _) ⟨wr.heap.size, 0, none⟩ 1 1 [.int .i64 x] rfl rfl (cell_one_new _ _ _) (by simp [Value.oneCell']) (by unfold maxLen; omega) (by omega) (by simp; omega) ?_)
          intro v' w1 hown' hgrow _
          have hbw : Below wr.heap.size wr w1 ∨ True := .inr trivial
          have hB1 : Below w.heap.size w w1 := HB.out.trans ((((Below.refl _ wr).alloc hsz _)).grown hgrow (by simp; omega) (fun j e => (hown.lt j e).1))
          have hck1 : w1.cell? ⟨b, off + k, none⟩ = some (.int .i64 y) := (hB1.cell (p := ⟨b, off + k, none⟩) hb).trans (Hck2.out)
          have hsz1 := hB1.size
          have HB1 := Lib.hid hB1
          clear hgrow hB1 hown hB hck
          go_wp2_with (at_builtin; refine wpList_append_own _ rfl _ _ 22 rfl w.heap.size 3 i0 (.int .i64 0) 1 8 Try.underlying22 hi hz0 hz1 hz2 rfl (by decide) _ _ _ rfl (hown'.alloc _) ⟨w1.heap.size, 0, none⟩ 1 1 [.int .i64 y] rfl rfl (cell_one_new _ _ _) (by simp [Value.oneCell']) (by unfold maxLen; omega) (by omega) (by simp; omega) ?_)
          intro v2 w2 hown2 hgrow2 _
          have hB2 : Below w.heap.size w w2 := HB1.out.trans ((((Below.refl _ w1).alloc hsz1 _)).grown hgrow2 (by simp; omega) (fun j e => (hown'.lt j e).1))
          have Ho := Lib.hid hown2
          have HB2 := Lib.hid hB2
          clear hown' hown2 hgrow2 hB2
          go_wp2_with fail
          go_roundw
          case rel => exact ⟨k + 1, by omega, by go_num, true, rfl, H1.out, by rw [H2.out, intsV_append', intsV_append', List.length_append, List.length_append, List.append_assoc]; exact Ho.out, HB2.out⟩
          case measure => simp [intOf]; omega
        · obtain ⟨h1, h2⟩ := refW_pass hkl hst (by omega)
          have H1 := Lib.hid h1
          have H2 := Lib.hid h2
          obtain ⟨q, hq⟩ : ∃ q, q = refW l x k false := ⟨_, rfl⟩
          rw [← hq] at hown hlen H2
          obtain ⟨y, hy⟩ : ∃ y, y = nth l k := ⟨_, rfl⟩
          rw [← hy] at hck H2 hxy hne
          have hyx : y ≤ x := by omega
          clear hc hck2 h1 h2 hq hy hst hkl hxy hne
          go_wp2_with (at_builtin; refine wpList_append_own _ rfl _ _ 22 rfl w.heap.size 3 i0 (.int .i64 0) 1 8 Try.underlying22 hi hz0 hz1 hz2 rfl (by decide) _ _ _ rfl (hown.alloc _) ⟨wr.heap.size, 0, none⟩ 1 1 [.int .i64 y] rfl rfl (cell_one_new _ _ _) (by simp [Value.oneCell']) (by unfold maxLen; omega) (by omega) (by simp; omega) ?_)
          intro v' w1 hown' hgrow _
          have hB1 : Below w.heap.size w w1 := HB.out.trans ((((Below.refl _ wr).alloc hsz _)).grown hgrow (by simp; omega) (fun j e => (hown.lt j e).1))
          have Ho := Lib.hid hown'
          have HB1 := Lib.hid hB1
          clear hown' hgrow hB1 hown hB
          go_wp2_with fail
          go_roundw
          case rel => exact ⟨k + 1, by omega, by go_num, false, rfl, H1.out, by rw [H2.out, intsV_append', List.length_append]; exact Ho.out, HB1.out⟩
          case measure => simp [intOf]; omega
    · have hlti : ¬ (k : Int) < (n : Int) := by omega
      obtain rfl : k = n := by omega
      have hsz := hB.size
      cases p with
      | true =>
        have e : refW l x k true = withI l x := by unfold refW; rw [if_pos rfl, Hn.out, List.take_length]
        rw [e] at hown
        obtain ⟨_, A', c', rfl, hr⟩ := own_ints hown
        have Hr := Lib.hid hr
        have HB := Lib.hid hB
        clear hown hr hB hst e
        go_wp2_with fail
        go_ret
        exact ⟨A', c', rfl, Hr.out, HB.out⟩
      | false =>
        have e : refW l x k false = l := by unfold refW; rw [if_neg (by decide), Hn.out, List.take_length]
        rw [e] at hown
        rw [Hn.out] at hst
        have Hw := Lib.hid (refW_done hst)
        have hll := Hn.out
        obtain ⟨q, hq⟩ : ∃ q, q = l.length := ⟨_, rfl⟩
        have hq1 : q ≤ 100000 := by omega
        have Hq := Lib.hid hq
        rw [← hq] at hown
        have HB := Lib.hid hB
        clear e hst hll hq
        go_wp2_with (at_builtin; refine wpList_append_own _ rfl _ _ 22 rfl w.heap.size 3 i0 (.int .i64 0) 1 8 Try.underlying22 hi hz0 hz1 hz2 rfl (by decide) _ _ _ rfl (hown.alloc _) ⟨wr.heap.size, 0, none⟩ 1 1 [.int .i64 x] rfl rfl (cell_one_new _ _ _) (by simp [Value.oneCell']) (by unfold maxLen; omega) (by omega) (by simp; omega) ?_)
        intro v' w1 hown' hgrow _
        have hB1 : Below w.heap.size w w1 := HB.out.trans ((((Below.refl _ wr).alloc hsz _)).grown hgrow (by simp; omega) (fun j e => (hown.lt j e).1))
        have hfin : w1.ownsRow w.heap.size 3 1 v' (withI l x).length (intsV (withI l x)) := by rw [Hw.out, intsV_append', List.length_append, ← Hq.out]; exact hown'
        obtain ⟨_, A', c', rfl, hr⟩ := own_ints hfin
        have Hr := Lib.hid hr
        have HB1 := Lib.hid hB1
        clear hown' hgrow hB1 hown hB hfin hr
        go_wp2_with fail
        go_ret
        exact ⟨A', c', rfl, Hr.out, HB1.out⟩
end Go.Proofs.Ytpcindemkkdbbaa
