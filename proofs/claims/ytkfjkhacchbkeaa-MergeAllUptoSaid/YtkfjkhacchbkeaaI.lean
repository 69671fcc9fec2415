/- Contracts of slices.Index, Contains, IndexFunc, ContainsFunc, and of what lets an item join a group. -/
import Derived.Test.YtkfjkhacchbkeaaH
namespace Go.Proofs.Ytkfjkhacchbkeaa
set_option linter.unusedVariables false
set_option linter.unusedSimpArgs false
open Go.RowKit

/-- an index is one, or -1 -/
def Idx (r : Int) (b : Bool) : Prop := decide (0 ≤ r) = b
theorem Idx.yes {r : Int} {b : Bool} (hr : 0 ≤ r) (h : b = true) : Idx r b := by unfold Idx; rw [h]; simpa using hr
theorem Idx.no {b : Bool} (h : b = false) : Idx (-1) b := by unfold Idx; rw [h]; rfl
theorem mem_take_succ {l : List Int} {k : Nat} (h : k < l.length) (x : Int) : x ∉ l.take (k + 1) ↔ x ∉ l.take k ∧ nth l k ≠ x := by
  rw [take_nth l k h, List.mem_append, List.mem_singleton]
  constructor
  · intro h; exact ⟨fun h1 => h (.inl h1), fun h1 => h (.inr h1.symm)⟩
  · rintro ⟨h1, h2⟩ (h3 | h3)
    · exact h1 h3
    · exact h2 h3.symm

set_option maxRecDepth 100000 in
set_option maxHeartbeats 1000000 in
theorem index_any (A : Option Addr) (c k0 : Nat) (l : List Int) (x : Int) (w : World) (B : Nat) (hk0 : k0 = l.length) (hl : l.length ≤ 100000) (hI : Ints w B A l) :
    Calls Try.prog 63 #[.slice A k0 c, .int .i64 x] w fun e w' => (∃ r : Int, e = .returned (.int .i64 r) ∧ Idx r (decide (x ∈ l))) ∧ w = w' := by
  subst hk0
  have HI := Lib.hid hI
  clear hI
  go_enter Try.func63, Try.ntmps63
  go_wp2_with fail
  go_loop [8] (fun i => ∃ k : Nat, k ≤ l.length ∧ i = .int .i64 k ∧ x ∉ l.take k) (fun i => l.length - (intOf i).toNat)
  case atStart => exact ⟨0, Nat.zero_le _, rfl, by simp⟩
  case round =>
    obtain ⟨k, hk, rfl, hno⟩ := hrel
    have Hno := Lib.hid hno
    clear hno
    by_cases hlt : k < l.length
    · have hlti : (k : Int) < (l.length : Int) := by omega
      have hk0 : (0 : Int) ≤ (k : Int) := by omega
      obtain ⟨b, off, rfl, hb, hc⟩ := HI.out.at_ hlt
      have Htk := Lib.hid (mem_take_succ hlt x)
      have Hmem : Hid (nth l k ∈ l) := by unfold Hid; rw [nth_lt hlt]; exact List.getElem_mem _
      obtain ⟨y, hy⟩ : ∃ y, y = nth l k := ⟨_, rfl⟩
      rw [← hy] at hc Htk Hmem
      clear hy
      by_cases hxy : x = y
      · have hb1 : (x == y) = true := by simp [hxy]
        have Hf : Hid (decide (x ∈ l) = true) := by unfold Hid; rw [hxy]; exact decide_eq_true Hmem.out
        clear hxy
        go_wp2_with fail
        go_ret
        exact ⟨⟨_, rfl, Idx.yes hk0 Hf.out⟩, rfl⟩
      · have hb1 : (x == y) = false := by simp [hxy]
        have Hxy := Lib.hid hxy
        clear hxy
        go_wp2_with fail
        go_round
        case rel => exact ⟨k + 1, by omega, by go_num, Htk.out.2 ⟨Hno.out, fun h => Hxy.out h.symm⟩⟩
        case measure => simp [intOf]; omega
    · have hlti : ¬ (k : Int) < (l.length : Int) := by omega
      obtain rfl : k = l.length := by omega
      have Hf : Hid (decide (x ∈ l) = false) := by
        have := Hno.out
        rw [List.take_length] at this
        exact decide_eq_false this
      go_wp2_with fail
      go_ret
      exact ⟨⟨_, rfl, Idx.no Hf.out⟩, rfl⟩

set_option maxHeartbeats 1000000 in
theorem contains_any (A : Option Addr) (c k0 : Nat) (l : List Int) (x : Int) (w : World) (B : Nat) (hk0 : k0 = l.length) (hl : l.length ≤ 100000) (hI : Ints w B A l) :
    Calls Try.prog 47 #[.slice A k0 c, .int .i64 x] w fun e w' => e = .returned (.bool (decide (x ∈ l))) ∧ w = w' := by
  have H := Lib.hid (index_any A c k0 l x w B hk0 hl hI)
  clear hI hk0
  go_enter Try.func47, Try.ntmps47
  go_wp2_with fail
  refine H.out.mono ?_
  rintro e w' ⟨⟨r, rfl, hr⟩, rfl⟩
  have Hr := Lib.hid hr
  clear hr H
  go_wp2_with fail
  go_ret
  exact ⟨by rw [← Hr.out]; rfl, rfl⟩

set_option maxHeartbeats 1000000 in
theorem lacks_any (d : Int) (bh : Nat) (A : Option Addr) (c k0 : Nat) (l : List Int) (w : World) (B : Nat) (hk0 : k0 = l.length) (hl : l.length ≤ 100000) (hI : Ints w B A l) (hb : w.cell? ⟨bh, 0, none⟩ = some (.slice A k0 c)) :
    Calls Try.prog 46 #[.int .i64 d, .pointer (some ⟨bh, 0, none⟩)] w fun e w' => e = .returned (.bool (!decide (d ∈ l))) ∧ w = w' := by
  have H := Lib.hid (contains_any A c k0 l d w B hk0 hl hI)
  clear hI hk0
  go_enter Try.func46, Try.ntmps46
  go_wp2_with fail
  refine H.out.mono ?_
  rintro e w' ⟨rfl, rfl⟩
  clear H
  go_wp2_with fail
  go_ret
  exact ⟨rfl, rfl⟩

/-- all of q are among l -/
def allIn (q l : List Int) : Bool := q.all fun d => decide (d ∈ l)
theorem allIn_take {q l : List Int} {k : Nat} (h : k < q.length) (h1 : allIn (q.take k) l = true) (h2 : nth q k ∈ l) : allIn (q.take (k + 1)) l = true := by
  unfold allIn at h1 ⊢
  rw [take_nth q k h, List.all_append, h1]; simp [h2]
theorem allIn_stop {q l : List Int} {k : Nat} (h : k < q.length) (h2 : nth q k ∉ l) : allIn q l = false := by
  rw [Bool.eq_false_iff]
  intro h1
  have := List.all_eq_true.1 h1 (nth q k) (by rw [nth_lt h]; exact List.getElem_mem _)
  exact h2 (by simpa using this)

set_option maxRecDepth 100000 in
set_option maxHeartbeats 1000000 in
theorem indexFunc_any (Aq : Option Addr) (cq kq : Nat) (q : List Int) (bh : Nat) (A : Option Addr) (c k0 : Nat) (l : List Int) (w : World) (B : Nat) (hkq : kq = q.length) (hk0 : k0 = l.length) (hql : q.length ≤ 100000) (hl : l.length ≤ 100000) (hQ : Ints w B Aq q) (hI : Ints w B A l) (hb : w.cell? ⟨bh, 0, none⟩ = some (.slice A k0 c)) :
    Calls Try.prog 62 #[.slice Aq kq cq, .func (.func 46) #[] #[.pointer (some ⟨bh, 0, none⟩)]] w fun e w' => (∃ r : Int, e = .returned (.int .i64 r) ∧ Idx r (!allIn q l)) ∧ w = w' := by
  subst hkq
  have HQ := Lib.hid hQ
  have HL := Lib.hid (fun d => lacks_any d bh A c k0 l w B hk0 hl hI hb)
  clear hQ hI hb hk0
  go_enter Try.func62, Try.ntmps62
  go_wp2_with fail
  go_loop [8] (fun i => ∃ k : Nat, k ≤ q.length ∧ i = .int .i64 k ∧ allIn (q.take k) l = true) (fun i => q.length - (intOf i).toNat)
  case atStart => exact ⟨0, Nat.zero_le _, rfl, by simp [allIn]⟩
  case round =>
    obtain ⟨k, hk, rfl, hno⟩ := hrel
    have Hno := Lib.hid hno
    clear hno
    by_cases hlt : k < q.length
    · have hlti : (k : Int) < (q.length : Int) := by omega
      have hk0 : (0 : Int) ≤ (k : Int) := by omega
      obtain ⟨b, off, rfl, hb, hc⟩ := HQ.out.at_ hlt
      have Htk := Lib.hid (@allIn_take q l k hlt Hno.out)
      have Hst := Lib.hid (@allIn_stop q l k hlt)
      obtain ⟨y, hy⟩ : ∃ y, y = nth q k := ⟨_, rfl⟩
      rw [← hy] at hc Htk Hst
      have HLy := Lib.hid (HL.out y)
      clear hy
      by_cases hxy : y ∈ l
      · have Hf := Lib.hid (Htk.out hxy)
        rw [decide_eq_true hxy] at HLy
        clear hxy
        go_wp2_with (go_at_call 46; refine HLy.out.mono ?_; rintro e w' ⟨rfl, rfl⟩)
        go_round
        case rel => exact ⟨k + 1, by omega, by go_num, Hf.out⟩
        case measure => simp [intOf]; omega
      · have Hf := Lib.hid (Hst.out hxy)
        rw [decide_eq_false hxy] at HLy
        clear hxy
        go_wp2_with (go_at_call 46; refine HLy.out.mono ?_; rintro e w' ⟨rfl, rfl⟩)
        go_ret
        exact ⟨⟨_, rfl, Idx.yes hk0 (by rw [Hf.out]; rfl)⟩, rfl⟩
    · have hlti : ¬ (k : Int) < (q.length : Int) := by omega
      obtain rfl : k = q.length := by omega
      have Hf : Hid (allIn q l = true) := by
        have := Hno.out
        rwa [List.take_length] at this
      go_wp2_with fail
      go_ret
      exact ⟨⟨_, rfl, Idx.no (by rw [Hf.out]; rfl)⟩, rfl⟩

set_option maxHeartbeats 1000000 in
theorem containsFunc_any (Aq : Option Addr) (cq kq : Nat) (q : List Int) (bh : Nat) (A : Option Addr) (c k0 : Nat) (l : List Int) (w : World) (B : Nat) (hkq : kq = q.length) (hk0 : k0 = l.length) (hql : q.length ≤ 100000) (hl : l.length ≤ 100000) (hQ : Ints w B Aq q) (hI : Ints w B A l) (hb : w.cell? ⟨bh, 0, none⟩ = some (.slice A k0 c)) :
    Calls Try.prog 45 #[.slice Aq kq cq, .func (.func 46) #[] #[.pointer (some ⟨bh, 0, none⟩)]] w fun e w' => e = .returned (.bool (!allIn q l)) ∧ w = w' := by
  have H := Lib.hid (indexFunc_any Aq cq kq q bh A c k0 l w B hkq hk0 hql hl hQ hI hb)
  clear hQ hI hb hk0 hkq
  go_enter Try.func45, Try.ntmps45
  go_wp2_with fail
  refine H.out.mono ?_
  rintro e w' ⟨⟨r, rfl, hr⟩, rfl⟩
  have Hr := Lib.hid hr
  clear hr H
  go_wp2_with fail
  go_ret
  exact ⟨by rw [← Hr.out]; rfl, rfl⟩

theorem fitsB_all (D : List (List Nat)) (i : Nat) (grp : List Nat) : fitsB D i grp = allIn (natsI (rowN D i)) (natsI (closeL D (natsI grp))) := by
  unfold fitsB allIn natsI
  rw [List.all_map]
  congr 1
  funext d
  rw [Bool.eq_iff_iff]
  simp only [decide_eq_true_eq, Function.comp]
  exact (mem_natsI (p := closeL D (List.map (fun i : Nat => (i : Int)) grp))).symm

set_option maxRecDepth 100000 in
set_option maxHeartbeats 1000000 in
theorem behind_any (i : Nat) (Ag : Option Addr) (cg kg : Nat) (grp : List Nat) (bD : Nat) (A : Option Addr) (c kD : Nat) (D : List (List Nat)) (hkg : kg = grp.length) (hkD : kD = D.length) (hD : OkD D) (hi : i < D.length) (hgl : grp.length ≤ 100000) (w : World)
    (hM : Mat w w.heap.size A (rowsI D)) (hG : Ints w w.heap.size Ag (natsI grp)) (hb : w.cell? ⟨bD, 0, none⟩ = some (.slice A kD c)) :
    Calls Try.prog 44 #[.int .i64 i, .slice Ag kg cg, .pointer (some ⟨bD, 0, none⟩)] w fun e w' => e = .returned (.bool (fitsB D i grp)) ∧ Below w.heap.size w w' := by
  have HC := Lib.hid (close_at A c kD D hkD hD Ag cg kg (natsI grp) (by rw [length_natsI]; exact hkg) (by rw [length_natsI]; exact hgl) w hM hG)
  have HM := Lib.hid hM
  have Hf := Lib.hid (fitsB_all D i grp)
  have hcl := length_closeL D hD (natsI grp)
  have hrl := hD.len i
  have hii : (i : Int) < (kD : Int) := by rw [hkD]; omega
  have hi0 : (0 : Int) ≤ (i : Int) := by omega
  obtain ⟨cl, hcle⟩ : ∃ cl, cl = closeL D (natsI grp) := ⟨_, rfl⟩
  rw [← hcle] at HC Hf hcl
  have hbl : bD < w.heap.size := lt_cell hb
  clear hM hG hcle hkg hkD
  go_enter Try.func44, Try.ntmps44
  go_wp2_with fail
  refine HC.out.mono ?_
  rintro e w1 ⟨A1, c1, rfl, hI1, hB1⟩
  have hb1 : w1.cell? ⟨bD, 0, none⟩ = some (.slice A kD c) := (hB1.cell (p := ⟨bD, 0, none⟩) hbl).trans hb
  obtain ⟨b, off, Ak, ck, rfl, hbb, hc, hI⟩ := HM.out.at_ (k := i) (by rw [length_rowsI]; exact hi)
  rw [rowI_rowsI] at hc hI
  have hc1 : w1.cell? ⟨b, off + i, none⟩ = some (.slice Ak (natsI (rowN D i)).length ck) := (hB1.cell (p := ⟨b, off + i, none⟩) hbb).trans hc
  have hal : Below w1.heap.size w1 (w1.alloc (.cells #[.slice A1 cl.length c1] 29)) := (Below.refl _ _).alloc (Nat.le_refl _) _
  have hq : Ints (w1.alloc (.cells #[.slice A1 cl.length c1] 29)) (w1.heap.size + 1) Ak (natsI (rowN D i)) := by
    have := Ints.next (Ints.next hI hB1) hal
    simpa using this
  have hl : Ints (w1.alloc (.cells #[.slice A1 cl.length c1] 29)) (w1.heap.size + 1) A1 (natsI cl) := by
    have := Ints.next hI1 hal
    simpa using this
  have hcell : (w1.alloc (.cells #[.slice A1 cl.length c1] 29)).cell? ⟨w1.heap.size, 0, none⟩ = some (.slice A1 cl.length c1) := cell_one_new _ _ _ 0 _ rfl
  have HCF := Lib.hid (containsFunc_any Ak ck (natsI (rowN D i)).length (natsI (rowN D i)) w1.heap.size A1 c1 cl.length (natsI cl) (w1.alloc (.cells #[.slice A1 cl.length c1] 29)) (w1.heap.size + 1) rfl (length_natsI _).symm (by rw [length_natsI]; omega) (by rw [length_natsI]; omega) hq hl hcell)
  have HB := Lib.hid (hB1.alloc hB1.size (.cells #[.slice A1 cl.length c1] 29))
  have hs1 := hB1.size
  have hbl1 := lt_cell hb1
  have hbb1 := lt_cell hc1
  clear hI hI1 hq hl hal hc hcell hB1 HM HC hb
  go_wp2_with (go_at_call 45; refine HCF.out.mono ?_; rintro e w' ⟨rfl, rfl⟩)
  go_ret
  exact ⟨by rw [Hf.out]; rfl, HB.out⟩
end Go.Proofs.Ytkfjkhacchbkeaa
