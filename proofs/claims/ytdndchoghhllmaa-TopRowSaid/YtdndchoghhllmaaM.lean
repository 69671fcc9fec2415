/- The document's groups: Behind. -/
import Derived.Test.YtdndchoghhllmaaK
set_option linter.unusedVariables false
set_option linter.unusedSimpArgs false
namespace Go.Proofs.Ytdndchoghhllmaa
open Go.RowKit
def foldP (l : List Gp) (o : List Int) (ns : List Int) : List Int := ns.foldl (fun r m => withL r (ofN l m).p) o
theorem foldP_step {l : List Gp} {o ns : List Int} {j : Nat} (h : j < ns.length) : foldP l o (ns.take (j + 1)) = withL (foldP l o (ns.take j)) (ofN l (inn ns j)).p := by
  unfold foldP; rw [take_inn h, List.foldl_append]; rfl
def behO (l : List Gp) (es : List Int) : List Int := foldP l [] (es.flatMap fun n => aheadR l n)
theorem behO_step (l : List Gp) (es : List Int) (n : Int) : behO l (es ++ [n]) = foldP l (behO l es) (aheadR l n) := by
  unfold behO foldP
  rw [List.flatMap_append, List.foldl_append]
  simp
/-- rising numbers of some -/
def InU (U o : List Int) : Prop := Rises o ∧ ∀ y ∈ o, y ∈ U
theorem InU.len {U o : List Int} (h : InU U o) : o.length ≤ U.length := sub_len (rises_nodup h.1) h.2
theorem InU.withL {U o a : List Int} (h : InU U o) (ha : ∀ y ∈ a, y ∈ U) : InU U (withL o a) :=
  ⟨withL_rises h.1, fun z hz => by rcases mem_withL.1 hz with q | q; exact h.2 z q; exact ha z q⟩
theorem InU.fold {l : List Gp} {U : List Int} (hU : ∀ m, ∀ y ∈ (ofN l m).p, y ∈ U) : ∀ {ns o : List Int}, InU U o → InU U (foldP l o ns) := by
  intro ns
  induction ns with
  | nil => intro o h; exact h
  | cons n r ih => intro o h; exact ih (h.withL (hU n))
section
variable (B r : Nat) (A : Option Addr) (c : Nat) (L : List Gr) (k : Int) (w : World)
set_option maxRecDepth 100000 in
set_option maxHeartbeats 4000000 in
theorem rbehind_any (U : List Int) (hC : RefAt B w r A c L k) (hl : L.length ≤ 1000) (hnd : (nos (gs L)).Nodup) (hin : ∀ n, ∀ y ∈ (ofN (gs L) n).a, y ∈ nos (gs L)) (hal : ∀ q ∈ L, q.g.a.length ≤ 1000) (hU1 : U.length ≤ 1000) (hU : ∀ m, ∀ y ∈ (ofN (gs L) m).p, y ∈ U) (hp : ∀ m, (ofN (gs L) m).p.length ≤ 1000) :
    Calls Try.prog 37 #[.pointer (some ⟨r, 0, none⟩)] w fun e w' => ∃ A' c', e = .returned (.slice A' (Gs.behind ⟨gs L, k⟩).length c') ∧ Ints w' w'.heap.size A' (Gs.behind ⟨gs L, k⟩) ∧ Below w.heap.size w w' := by
  have HFin : Hid (behO (gs L) (engK L L.length) = Gs.behind ⟨gs L, k⟩) := by unfold Hid; rw [engK_all L k]; rfl
  rw [← HFin.out]
  have HC := Lib.hid hC
  have HAh : Hid (∀ (n : Int) (w1 : World), Below w.heap.size w w1 → Calls Try.prog 36 #[.pointer (some ⟨r, 0, none⟩), .int .i64 n] w1 fun e w' => ∃ A' c', e = .returned (.slice A' (aheadR (gs L) n).length c') ∧ Ints w' w'.heap.size A' (aheadR (gs L) n) ∧ Below w1.heap.size w1 w') := fun n w1 h => rahead_any B r A c L k n w1 (HC.out.fresh h) hl hnd hin hal
  have HPt : Hid (∀ (n : Int) (w1 : World), Below w.heap.size w w1 → Calls Try.prog 35 #[.pointer (some ⟨r, 0, none⟩), .int .i64 n] w1 fun e w' => ∃ A' c', e = .returned (.slice A' (ofN (gs L) n).p.length c') ∧ Ints w' w'.heap.size A' (ofN (gs L) n).p ∧ Below w1.heap.size w1 w') := fun n w1 h => (rpatches_any B r A c L k n w1 (HC.out.fresh h) hl hnd (hp n)).mono fun e w' ⟨A', c', q1, q2, q3⟩ => ⟨A', c', q1, q2.ints, q3⟩
  have HW : Hid (∀ (w1 : World) (A1 : Option Addr) (c1 : Nat) (o : List Int) (y : Int), InU U o → Ints w1 w1.heap.size A1 o → Calls Try.prog 56 #[.slice A1 o.length c1, .int .i64 y] w1 fun e w' => ∃ A' c', e = .returned (.slice A' (withI o y).length c') ∧ Ints w' w'.heap.size A' (withI o y) ∧ Below w1.heap.size w1 w') := fun w1 A1 c1 o y h1 h2 =>
    (rwith_any A1 c1 o y w1 (by have := h1.len; omega) h1.1 h2).mono fun e w' ⟨A', c', q1, q2, q3⟩ => ⟨A', c', q1, q2.ints, q3⟩
  have HUn := Lib.hid hU
  have HPl := Lib.hid hp
  have HAlen : Hid (∀ n, (aheadR (gs L) n).length ≤ 1000) := fun n => by
    have hg : GoodO (gs L) (aheadR (gs L) n) := ((GoodO.nil _).withL (hin n)).rounds hin _
    have := hg.len
    rw [length_gs] at this
    omega
  have HIn0 : Hid (∀ es, InU U (behO (gs L) es)) := fun es => InU.fold hU ⟨List.Pairwise.nil, fun y h => by cases h⟩
  clear hC hnd hin hal hU hp
  go_enter Try.func37, Try.ntmps37
  go_wp2
  go_loopw [3, 4] (fun s x wr => ∃ (j : Nat) (A' : Option Addr) (c' : Nat), j ≤ L.length ∧ x = .int .i64 j ∧ s = .slice A' (behO (gs L) (engK L j)).length c' ∧ Hid (Ints wr wr.heap.size A' (behO (gs L) (engK L j))) ∧ Hid (Below w.heap.size w wr)) (fun _ x _ => L.length - (intOf x).toNat)
  case atStart => exact ⟨0, none, 0, Nat.zero_le _, rfl, rfl, Ints.nil, Below.refl _ _⟩
  case round =>
    obtain ⟨j, A', c', hj, rfl, rfl, hI, hB⟩ := hrel
    rename World => wr
    have hj0 : (0 : Int) ≤ (j : Int) := by omega
    have hC1 := HC.out.fresh hB.out
    obtain ⟨c0, _⟩ := hC1.hcells
    have hr := hC1.glt
    by_cases hlt : j < L.length
    · have hji : (j : Int) < (L.length : Int) := by omega
      obtain ⟨b, hA, h1, h2, hb, d0, d1, _⟩ := hC1.at_ hlt
      unfold maxLen at h2
      have hst := engK_step hlt
      subst hA
      by_cases e : (grn L j).g.s = 2
      · have Hs : Hid (behO (gs L) (engK L (j + 1)) = foldP (gs L) (behO (gs L) (engK L j)) (aheadR (gs L) (grn L j).g.n)) := by unfold Hid; rw [hst, if_pos e, behO_step]
        rw [e] at d1
        have HAh1 := Lib.hid (HAh.out (grn L j).g.n wr hB.out)
        generalize (grn L j).g.n = n0 at *
        have HG := Lib.hid (HIn0.out (engK L j))
        have hall := HAlen.out n0
        generalize behO (gs L) (engK L j) = o at *
        generalize aheadR (gs L) n0 = al at *
        clear hst e hC1
        go_wp2_with (go_at_call 36; refine HAh1.out.mono ?_; rintro e w3 ⟨A3, c3, rfl, hi3, hb3⟩; have HI3 := Lib.hid hi3; have HB3 := Lib.hid (hB.out.trans (hb3.mono hB.out.size)); have HO3 := Lib.hid (hI.out.next hb3); clear hi3 hb3)
        go_loopw [3, 6] (fun s x w4 => ∃ (m : Nat) (A' : Option Addr) (c' : Nat), m ≤ al.length ∧ x = .int .i64 m ∧ s = .slice A' (foldP (gs L) o (al.take m)).length c' ∧ Hid (Ints w4 w4.heap.size A' (foldP (gs L) o (al.take m))) ∧ Hid (Below w3.heap.size w3 w4)) (fun _ x _ => al.length - (intOf x).toNat)
        case atStart => exact ⟨0, A', c', Nat.zero_le _, rfl, rfl, HO3.out, Below.refl _ _⟩
        case round =>
          obtain ⟨m, A4, c4, hm, rfl, rfl, hI4, hB4⟩ := hrel
          rename World => w4
          have hm0 : (0 : Int) ≤ (m : Int) := by omega
          have HB4W := Lib.hid (HB3.out.trans (hB4.out.mono HB3.out.size))
          by_cases hml : m < al.length
          · have hmi : (m : Int) < (al.length : Int) := by omega
            obtain ⟨b3, o3, rfl, l3, d5'⟩ := HI3.out.at_ hml
            have d5 := (hB4.out.cell (p := ⟨b3, o3 + m, none⟩) l3).trans d5'
            have Hs4 := Lib.hid (foldP_step (l := gs L) (o := o) hml)
            have HPt1 := Lib.hid (HPt.out (inn al m) w4 HB4W.out)
            have HPu := Lib.hid (HUn.out (inn al m))
            have hpl := HPl.out (inn al m)
            have HG4 : Hid (InU U (foldP (gs L) o (al.take m))) := InU.fold HUn.out HG.out
            generalize inn al m = y at *
            generalize (ofN (gs L) y).p = ps at *
            generalize foldP (gs L) o (al.take m) = o4 at *
            clear d5'
            go_wp2_with (go_at_call 35; refine HPt1.out.mono ?_; rintro e w5 ⟨A5, c5, rfl, hi5, hb5⟩; have HI5 := Lib.hid hi5; have HB5 := Lib.hid (hB4.out.trans (hb5.mono hB4.out.size)); have HO5 := Lib.hid (hI4.out.next hb5); clear hi5 hb5)
            go_loopw [3, 8] (fun s x w6 => ∃ (t : Nat) (A' : Option Addr) (c' : Nat), t ≤ ps.length ∧ x = .int .i64 t ∧ s = .slice A' (withL o4 (ps.take t)).length c' ∧ Hid (Ints w6 w6.heap.size A' (withL o4 (ps.take t))) ∧ Hid (Below w5.heap.size w5 w6)) (fun _ x _ => ps.length - (intOf x).toNat)
            case atStart => exact ⟨0, A4, c4, Nat.zero_le _, rfl, rfl, HO5.out, Below.refl _ _⟩
            case round =>
              obtain ⟨t, A6, c6, ht, rfl, rfl, hI6, hB6⟩ := hrel
              rename World => w6
              have ht0 : (0 : Int) ≤ (t : Int) := by omega
              by_cases htl : t < ps.length
              · have hti : (t : Int) < (ps.length : Int) := by omega
                obtain ⟨b5, o5, rfl, l5, d7'⟩ := HI5.out.at_ htl
                have d7 := (hB6.out.cell (p := ⟨b5, o5 + t, none⟩) l5).trans d7'
                have Hs6 := Lib.hid (withL_step (o := o4) htl)
                have HW6 := Lib.hid (HW.out w6 A6 c6 _ (inn ps t) (HG4.out.withL (fun y hy => HPu.out y (List.mem_of_mem_take hy))) hI6.out)
                generalize inn ps t = z at *
                generalize withL o4 (ps.take t) = o6 at *
                clear d7'
                go_wp2_with (refine HW6.out.mono ?_; rintro e w7 ⟨A7, c7, rfl, hi7, hb7⟩; have HI7 := Lib.hid hi7; have HB7 := Lib.hid (hB6.out.trans (hb7.mono hB6.out.size)); clear hi7 hb7)
                go_roundw
                case rel => exact ⟨t + 1, A7, c7, by omega, by go_num, by rw [Hs6.out], by rw [Hs6.out]; exact HI7.out, HB7.out⟩
                case measure => simp [intOf]; omega
              · obtain rfl : t = ps.length := by omega
                have hti : ¬ (ps.length : Int) < (ps.length : Int) := by omega
                rw [List.take_length] at hI6 ⊢
                rw [← Hs4.out] at hI6 ⊢
                go_wp2
                go_roundw
                case rel => exact ⟨m + 1, A6, c6, by omega, by go_num, rfl, hI6.out, HB5.out.trans (hB6.out.mono HB5.out.size)⟩
                case measure => simp [intOf]; omega
          · obtain rfl : m = al.length := by omega
            have hmi : ¬ (al.length : Int) < (al.length : Int) := by omega
            rw [List.take_length] at hI4 ⊢
            rw [← Hs.out] at hI4 ⊢
            go_wp2
            go_roundw
            case rel => exact ⟨j + 1, A4, c4, by omega, by go_num, rfl, hI4.out, HB4W.out⟩
            case measure => simp [intOf]; omega
      · have Hs : Hid (engK L (j + 1) = engK L j) := by unfold Hid; rw [hst, if_neg e]
        have hx : (((grn L j).g.s : Int) != 2) = true := by simp; omega
        generalize (grn L j).g.s = sj at *
        clear hst e hC1
        go_wp2
        go_roundw
        case rel => exact ⟨j + 1, A', c', by omega, by go_num, by rw [Hs.out], by rw [Hs.out]; exact hI.out, hB.out⟩
        case measure => simp [intOf]; omega
    · obtain rfl : j = L.length := by omega
      have hji : ¬ (L.length : Int) < (L.length : Int) := by omega
      clear hC1
      go_wp2
      go_ret
      exact ⟨A', ⟨c', rfl⟩, hI.out, hB.out⟩
end
end Go.Proofs.Ytdndchoghhllmaa
