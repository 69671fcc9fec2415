/- The unit that a patch joins: home. -/
import Derived.Test.YtkldiofleepkfaaHS
set_option linter.unusedVariables false
set_option linter.unusedSimpArgs false
namespace Go.Proofs.Ytkldiofleepkfaa.Hd
open Go.RowKit
open Go.Maps (Keyed)
/-- does it join the last unit of its block? -/
def joinsH (l : List Hw) (sent : List Int) (b : Int) (ah : List Int) : Prop := 0 ≤ lastU l b ∧ lastU l b ∉ sent ∧ ∀ d ∈ ah, Near l (lastU l b) d
def HomeSays (w : World) (l : List Hw) (sent : List Int) (b : Int) (ah : List Int) (up : Int → Nat) (e : Ending) (w' : World) : Prop :=
  Below w.heap.size w w' ∧ ((joinsH l sent b ah ∧ lastU l b ∈ units l ∧ e = .returned (.tuple #[.pointer (some ⟨up (lastU l b), 0, none⟩), .bool true])) ∨ (¬ joinsH l sent b ah ∧ e = .returned (.tuple #[.pointer none, .bool false])))
theorem snoc_or {α : Type} (l : List α) : l = [] ∨ ∃ T u, l = T ++ [u] := by
  by_cases h : l = []
  · exact .inl h
  · exact .inr ⟨l.dropLast, l.getLast h, (List.dropLast_concat_getLast h).symm⟩
set_option maxRecDepth 100000 in
set_option maxHeartbeats 4000000 in
theorem home_any {w : World} {g gd n cc : Nat} {S : Nat → Bk} {k jo id : Int} {l : List Hw} {sent : List Int} {m : Lay} {Fd : Nat → Prop} (h : HAt w g gd n S cc k jo id l sent m Fd) (hcc : cc ≤ 100000) (hk : k ≤ 1000000) (b : Int)
    (B : Nat) (A : Option Addr) (c : Nat) (ah : List Int) (hR : w.ownsRow B 3 1 (.slice A ah.length c) ah.length (intsI ah)) (hw : ∀ d ∈ ah, hasN l d = true) (hl : ah.length ≤ 1000000) :
    Calls Try.prog 40 #[.pointer (some ⟨g, 0, none⟩), .int .i64 b, .slice A ah.length c] w (HomeSays w l sent b ah m.up) := by
  have HO := Lib.hid (on_any h hcc b)
  have HH := Lib.hid h
  have Hok := Lib.hid h.ok
  have HR := Lib.hid hR
  have HW := Lib.hid hw
  have hge := h.glt
  rcases snoc_or (onU l b) with hon | ⟨T, u, hon⟩
  · have Hno : Hid (¬ joinsH l sent b ah) := fun q => by have := q.1; rw [last_none h.ok hon] at this; omega
    rw [hon] at HO
    clear h hR hw hon
    go_enter Try.func40, Try.ntmps40
    go_wp2_with (go_at_call 29; refine HO.out.mono ?_; rintro e w1 ⟨A1, c1, rfl, hr1, hb1⟩; have HB1 := Lib.hid hb1; clear hr1 hb1)
    go_ret2
    exact ⟨HB1.out, .inr ⟨Hno.out, rfl⟩⟩
  · have hlast := last_on h.ok h.lo hon
    have huo : u ∈ onU l b := by rw [hon]; simp
    have hu : u ∈ units l := ((mem_onU' h.ok.asc).1 huo).1
    have h0 : 0 ≤ u := by
      obtain ⟨x, hx, e, _⟩ := mem_units.1 hu
      have := (h.lo x hx).1; omega
    have Hj : Hid (joinsH l sent b ah ↔ u ∉ sent ∧ ∀ d ∈ ah, Near l u d) := by unfold Hid joinsH; rw [hlast]; exact ⟨fun q => q.2, fun q => ⟨h0, q⟩⟩
    have Hlast := Lib.hid hlast
    have Hu := Lib.hid hu
    have HCl := Lib.hid (fun W (hW : Below w.heap.size w W) => closed_any (h.fresh hW) hk hu)
    have hub := h.us u hu
    have hul := (Array.getElem?_eq_some_iff.1 hub).1
    have HU : Hid (∀ W, Below w.heap.size w W → W.cell? ⟨m.up u, 3, none⟩ = some (.bool (sent.contains u)) ∧ m.up u < W.heap.size) := fun W hW => ⟨(hW.cell (p := ⟨m.up u, 3, none⟩) hul).trans (cell_of_row w _ 3 _ 62 (0, 0) hub), Nat.lt_of_lt_of_le hul hW.size⟩
    have hTl : T.length + 1 ≤ 1000 := by have q1 := on_len (l := l) b; rw [hon] at q1; simp at q1; have := h.few; omega
    rw [hon] at HO
    obtain ⟨sl, hsl⟩ : ∃ sl, sl = (T ++ [u]).length := ⟨_, rfl⟩
    have hsl1 : sl = T.length + 1 := by rw [hsl]; simp
    have Hsl := Lib.hid hsl
    rw [← hsl] at HO
    have hne0 : ((sl : Int) == 0) = false := by rw [beq_eq_false_iff_ne]; omega
    have hne1 : ¬ (sl : Int) = 0 := by omega
    obtain ⟨sn, hsn⟩ : ∃ sn, sn = T.length := ⟨_, rfl⟩
    have hsl2 : sl = sn + 1 := by omega
    have hsnb : sn ≤ 1000 := by omega
    have hw1 : IntKind.i64.wrap ((sl : Int) - 1) = (sn : Int) := by rw [hsl2]; simp [IntKind.wrap, IntKind.bits, IntKind.signed]; omega
    have hi1 : (sl : Int) - 1 < (sl : Int) := by omega
    have hi2 : (0 : Int) ≤ (sl : Int) - 1 := by omega
    have hi3 : ((sl : Int) - 1).toNat = sn := by omega
    have HAt1 : Hid (∀ (W : World) A1 c1, W.ownsRow w.heap.size 59 1 (.slice A1 sl c1) sl (ptrsU m.up (T ++ [u])) → ∃ ab, A1 = some ⟨ab, 0, none⟩ ∧ ab < W.heap.size ∧ W.cell? ⟨ab, sn, none⟩ = some (.pointer (some ⟨m.up u, 0, none⟩))) := fun W A1 c1 hr => by
      obtain ⟨ab, hA, _, _, hb, hcs, _⟩ := ptr_at hr (q := sn) (by omega)
      rw [ptrsU_at m.up (by rw [← hsl]; omega), hsn, un_last, ← hsn] at hcs
      exact ⟨ab, hA, hb, hcs⟩
    have hcont : sent.contains u = decide (u ∈ sent) := by
      by_cases q : u ∈ sent
      · simp [q]
      · simp [q]
    by_cases hse : u ∈ sent
    · have Hno : Hid (¬ joinsH l sent b ah) := fun q => ((Hj.out).1 q).1 hse
      rw [hcont, decide_eq_true hse] at HU
      clear h hR hw hon hub hul hu huo hlast hsl hsl1 hsn hcont hse Hj HCl
      generalize m.up u = ub at *
      go_enter Try.func40, Try.ntmps40
      go_wp2_with (go_at_call 29; refine HO.out.mono ?_; rintro e w1 ⟨A1, c1, rfl, hr1, hb1⟩; have HB1 := Lib.hid hb1; obtain ⟨ab, rfl, habl, hcell⟩ := HAt1.out w1 A1 c1 hr1; obtain ⟨u3, hub1⟩ := HU.out w1 hb1; clear hr1 hb1)
      go_ret2
      exact ⟨HB1.out, .inr ⟨Hno.out, rfl⟩⟩
    · rw [hcont, decide_eq_false hse] at HU
      have Hse := Lib.hid hse
      have HWf : Hid (∀ d ∈ ah, WfI d) := fun d hd => by
        obtain ⟨y, hy, rfl⟩ := hasN_iff.1 (hw d hd)
        have := h.lo y hy
        unfold WfI; omega
      obtain ⟨up, hup⟩ : ∃ up, up = m.up u := ⟨_, rfl⟩
      have Hup := Lib.hid hup
      rw [← hup] at HU HCl HAt1
      obtain ⟨an, han⟩ : ∃ an, an = ah.length := ⟨_, rfl⟩
      have Han := Lib.hid han
      rw [← han] at HR hl ⊢
      have hge2 := hge
      clear h hR hw hon hub hul hu huo hlast hsl hsl1 hsn hcont hse hup han
      go_enter Try.func40, Try.ntmps40
      go_wp2_with (first
        | (go_at_call 29; refine HO.out.mono ?_; rintro e w1 ⟨A1, c1, rfl, hr1, hb1⟩; have HB1 := Lib.hid hb1; obtain ⟨ab, rfl, habl, hcell⟩ := HAt1.out w1 A1 c1 hr1; obtain ⟨u3, hub1⟩ := HU.out w1 hb1; clear hr1 hb1)
        | (go_at_call 56; refine (HCl.out _ HB1.out).mono ?_; rintro e w2 ⟨sb, rfl, hcl⟩; have HC2 := Lib.hid hcl; clear hcl))
      obtain ⟨T2, hset, hsb, hTn, hb2⟩ := HC2.out
      have HSet := Lib.hid hset
      have HTn := Lib.hid hTn
      have HB2 := Lib.hid (HB1.out.trans (hb2.mono HB1.out.size))
      clear hset hTn hb2 hsb HC2
      go_loopw [36] (fun q wr => ∃ j : Nat, j ≤ an ∧ q = .int .i64 j ∧ Hid (∀ t, t < j → un ah t ∈ T2) ∧ Below w2.heap.size w2 wr) (fun q _ => an - (intOf q).toNat)
      case atStart => exact ⟨0, Nat.zero_le _, rfl, fun t ht => absurd ht (by omega), Below.refl _ _⟩
      case round =>
        obtain ⟨j, hj, rfl, hall, hB⟩ := hrel
        rename World => wr
        have HB := Lib.hid hB
        have hsz := hB.size
        by_cases hlt : j < an
        · have hlti : (j : Int) < (an : Int) := by omega
          have hj0 : (0 : Int) ≤ (j : Int) := by omega
          have hjl : j < ah.length := by rw [← Han.out]; exact hlt
          obtain ⟨db, hDA, d3, d4, hdb, hdc, _⟩ := ptr_at ((Kept.fresh (S := fun _ => False) (HB2.out.trans (hB.mono HB2.out.size))).row HR.out (fun _ _ q => q)) hlt
          rw [intsI_at hjl] at hdc
          have HK := Lib.hid (keyI (HWf.out _ (un_mem hjl)))
          obtain ⟨D, hs1, hs2⟩ := HSet.out.fresh hB
          have HS1 := Lib.hid hs1
          have hb1 : Below wr.heap.size wr (wr.alloc (.cells #[] 110)) := below_alloc1 wr _
          have Hb1 := Lib.hid (hB.trans (hb1.mono hsz))
          subst hDA
          unfold maxLen at d4
          by_cases hin : un ah j ∈ T2
          · have Hs : Hid (Maps.has D (.int .i64 (un ah j)) = true) := (hs2 _).2 hin
            have Hnx : Hid (∀ t, t < j + 1 → un ah t ∈ T2) := fun t ht => by
              rcases Nat.lt_or_ge t j with q | q
              · exact hall.out t q
              · obtain rfl : t = j := by omega
                exact hin
            generalize un ah j = d at hdc HK Hs
            clear hs1 hs2 hin hB hall hb1
            go_wp2_with (at_lookup; refine wpList_lookup_own_unit _ rfl _ _ 109 rfl 3 110 lawI Try.underlying109 (zeroS _) sb 1000000000 D rfl HS1.out _ _ rfl HK.out ?_; rw [Hs.out])
            go_roundw
            case rel => exact ⟨j + 1, by omega, by go_num, Hnx.out, Hb1.out⟩
            case measure => simp [intOf]; omega
          · have Hs : Hid (Maps.has D (.int .i64 (un ah j)) = false) := by
              unfold Hid
              cases q : Maps.has D (.int .i64 (un ah j)) with
              | false => rfl
              | true => exact absurd ((hs2 _).1 q) hin
            have Hno : Hid (¬ joinsH l sent b ah) := fun q => by
              have hd := un_mem hjl
              have hnr := ((Hj.out).1 q).2 _ hd
              exact hin ((HTn.out _).2 ⟨HW.out _ hd, hnr⟩)
            generalize un ah j = d at hdc HK Hs
            clear hs1 hs2 hin hB hall hb1
            go_wp2_with (at_lookup; refine wpList_lookup_own_unit _ rfl _ _ 109 rfl 3 110 lawI Try.underlying109 (zeroS _) sb 1000000000 D rfl HS1.out _ _ rfl HK.out ?_; rw [Hs.out])
            go_ret2
            exact ⟨HB2.out.trans (Hb1.out.mono HB2.out.size), .inr ⟨Hno.out, rfl⟩⟩
        · obtain rfl : j = an := by omega
          have hlti : ¬ (j : Int) < (j : Int) := by omega
          have Hyes : Hid (joinsH l sent b ah) := (Hj.out).2 ⟨Hse.out, fun d hd => by
            obtain ⟨t, ht, rfl⟩ := List.mem_iff_getElem.1 hd
            have := hall.out t (by rw [Han.out]; exact ht)
            rw [un_lt ht] at this
            exact ((HTn.out _).1 this).2⟩
          clear hB hall
          go_wp2
          go_ret2
          exact ⟨HB2.out.trans (HB.out.mono HB2.out.size), .inl ⟨Hyes.out, by rw [Hlast.out]; exact Hu.out, by rw [Hlast.out, ← Hup.out]; rfl⟩⟩
end Go.Proofs.Ytkldiofleepkfaa.Hd
