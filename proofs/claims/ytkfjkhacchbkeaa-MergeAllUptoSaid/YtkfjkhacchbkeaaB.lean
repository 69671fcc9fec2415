/- Contracts of merge's depsOf and Right. -/
import Derived.Test.YtkfjkhacchbkeaaA
import Derived.ScopeJumps
import Derived.WalkMore
namespace Go.Proofs.Ytkfjkhacchbkeaa
set_option linter.unusedVariables false
set_option linter.unusedSimpArgs false
open Go.RowKit

section
variable {P : Program} {Q : Exit → Act → World → Prop} {a : Act} {w : World} {l : Nat} {J : Act → World → Prop}
theorem jump_normal : Exit.jump l J Q .normal a w = Q .normal a w := rfl
theorem jump_exit (id : Nat) : Exit.jump l J Q (.exit id) a w = Q (.exit id) a w := rfl
theorem jump_ret : Exit.jump l J Q .ret a w = Q .ret a w := rfl
theorem jump_panic (ch : List PanicEntry) : Exit.jump l J Q (.panic ch) a w = Q (.panic ch) a w := rfl
/-- a scope out of which the run jumps on to a label, once at most -/
theorem wp_scope_on {c rest : Code} (l : Nat) (hf : findLabel c l = some rest)
    (first : c.wp P (Exit.jump l (fun a w => rest.wp P (Exit.noGoto Q) a w) Q) a w) : (Code.scope c).wp P Q a w :=
  wp_scope_jumps l (fun a w => rest.wp P (Exit.noGoto Q) a w) (fun _ _ => 0) hf first fun a w h =>
    wp_mono h fun e a' w' hq => by
      cases e with
      | goto l' => exact hq.elim
      | normal => exact hq
      | exit id => exact hq
      | ret => exact hq
      | panic ch => exact hq
      | outgrown => exact hq
end
attribute [local go_sem] jump_normal jump_exit jump_ret jump_panic

set_option maxRecDepth 100000 in
set_option maxHeartbeats 1000000 in
theorem depsOf_any (A : Option Addr) (c n : Nat) (l : List It) (hn : n = l.length) (w : World) (hl : l.length ≤ 1000) (hI : Items w w.heap.size A l) :
    Calls Try.prog 40 #[.slice A n c] w (DepsSays w l) := by
  obtain ⟨M, hM, hmk⟩ := make_rows n (by omega)
  have HM := Lib.hid hM
  have HI := Lib.hid hI
  have Hn := Lib.hid hn
  obtain ⟨Af, Cf, hAt⟩ : ∃ (Af : Nat → Option Addr) (Cf : Nat → Nat), 0 < n → ∃ b off, A = some ⟨b, off, none⟩ ∧ b < w.heap.size ∧ ∀ j, j < l.length → ItAt w w.heap.size b (off + j * 4) (itN l j) (Af j) (Cf j) := by
    by_cases h0 : 0 < l.length
    · obtain ⟨b, off, Af, Cf, h⟩ := hI h0
      exact ⟨Af, Cf, fun _ => ⟨b, off, h⟩⟩
    · exact ⟨fun _ => none, fun _ => 0, fun h => by omega⟩
  have HAt := Lib.hid hAt
  have hn1 : n ≤ 1000 := by omega
  clear hM hI hAt hn hl
  go_enter Try.func40, Try.ntmps40
  go_wp2_with fail
  clear hmk
  go_loopw [11] (fun i wr => ∃ k : Nat, k ≤ n ∧ i = .int .i64 k ∧ BlkIs wr w.heap.size 29 (depV n k l Af Cf) ∧ Below w.heap.size w wr) (fun i _ => n - (intOf i).toNat)
  case atStart =>
    have h1 := BlkIs.new w 29 M
    rw [HM.out l Af Cf] at h1
    exact ⟨0, Nat.zero_le _, rfl, h1, (Below.refl _ _).alloc (Nat.le_refl _) _⟩
  case round =>
    obtain ⟨k, hk, rfl, hblk, hB⟩ := hrel
    rename World => wr
    by_cases hlt : k < n
    · have hlti : (k : Int) < (n : Int) := by omega
      have hk0 : (0 : Int) ≤ (k : Int) := by omega
      obtain ⟨b, off, rfl, hb, hj⟩ := HAt.out (by omega)
      have hx := (hj k (by rw [← Hn.out]; exact hlt)).keep (w' := wr) hb (fun p hp => hB.cell hp)
      obtain ⟨c0, c1, c2, c3, _⟩ := hx
      have hset := depV_set n k l Af Cf hlt
      have hcell : wr.cell? ⟨w.heap.size, k, none⟩ = some (.slice none 0 0) := by rw [hblk.cell, depV_at _ _ _ hlt]; simp
      have hfr := hblk.frozen k
      obtain ⟨x, hx⟩ : ∃ x, x = itN l k := ⟨_, rfl⟩
      rw [← hx] at c0 c1 c2 c3 hset
      clear hx
      obtain ⟨⟨pb, po, ps⟩, d⟩ := x
      simp only at c0 c1 c2 c3 hset
      have Hset := Lib.hid hset
      have Hblk := Lib.hid hblk
      have HB := Lib.hid hB
      have hsz : w.heap.size < wr.heap.size := hblk.lt
      clear hset hblk hB hj
      go_wp2_with fail
      go_roundw
      case rel =>
        refine ⟨k + 1, by omega, by go_num, ?_, ?_⟩
        · rw [← Hset.out]; exact (BlkIs.set_ Hblk.out k _).alloc _
        · exact (HB.out.setCell (p := ⟨w.heap.size, k, none⟩) (Nat.le_refl _) _).alloc (by simpa [World.setCell] using Nat.le_of_lt hsz) _
      case measure => simp [intOf]; omega
    · have hlti : ¬ (k : Int) < (n : Int) := by omega
      obtain rfl : k = n := by omega
      have Hblk := Lib.hid hblk
      have HB := Lib.hid hB
      clear hblk hB
      go_wp2_with fail
      go_ret
      refine ⟨some ⟨w.heap.size, 0, none⟩, k, by rw [← Hn.out]; rfl, fun h0 => ?_, HB.out⟩
      rw [length_depsI, ← Hn.out] at h0
      obtain ⟨b, off, rfl, hb, hj⟩ := HAt.out h0
      refine ⟨_, _, rfl, Hblk.out.lt, fun j hjn => ?_⟩
      rw [length_depsI, ← Hn.out] at hjn
      have hx := hj j (by rw [← Hn.out]; exact hjn)
      refine ⟨Af j, Cf j, ?_, ?_⟩
      · rw [Nat.zero_add, Hblk.out.cell, depV_at _ _ _ hjn, if_pos hjn, rowI_depsI (by rw [← Hn.out]; exact hjn)]
      · rw [rowI_depsI (by rw [← Hn.out]; exact hjn)]
        exact (hx.row.below HB.out).more HB.out.size

set_option maxRecDepth 100000 in
set_option maxHeartbeats 1000000 in
theorem mright_any (A : Option Addr) (c n : Nat) (l : List It) (hn : n = l.length) (w : World) (hl : l.length ≤ 1000) (hs : Small l) (hI : Items w w.heap.size A l) :
    Calls Try.prog 15 #[.slice A n c] w fun e w' => e = .returned (.bool (rightL l)) ∧ Below w.heap.size w w' := by
  have Hlong := Lib.hid (@rightL_long l)
  have Hall := Lib.hid (@rightL_all l)
  have HI := Lib.hid hI
  have Hn := Lib.hid hn
  have HS := Lib.hid hs
  have hn1 : n ≤ 1000 := by omega
  clear hI hs hl hn
  by_cases h64 : n ≤ 64
  · go_enter Try.func15, Try.ntmps15
    go_wp2_with fail
    refine wp_scope_on 0 rfl ?_
    go_wp2_with fail
    go_loopw [10] (fun i wr => ∃ k : Nat, k ≤ n ∧ i = .int .i64 k ∧ rightTo l k = true ∧ Below w.heap.size w wr) (fun i _ => n - (intOf i).toNat)
    case atStart => exact ⟨0, Nat.zero_le _, rfl, rfl, Below.refl _ _⟩
    case round =>
      obtain ⟨k, hk, rfl, hok, hB⟩ := hrel
      rename World => wr
      have Hok := Lib.hid hok
      have HB := Lib.hid hB
      have hsz := hB.size
      clear hok
      by_cases hlt : k < n
      · have hlti : (k : Int) < (n : Int) := by omega
        have hk0 : (0 : Int) ≤ (k : Int) := by omega
        have hkl : k < l.length := by rw [← Hn.out]; exact hlt
        obtain ⟨b, off, Ak, ck, rfl, hb, hx⟩ := HI.out.at_ hkl
        replace hx := hx.keep (w' := wr) hb (fun p hp => hB.cell hp)
        obtain ⟨c0, c1, c2, c3, _⟩ := hx
        have hp := (HS.out k hkl).1
        have Hst := Lib.hid (@rightTo_stop l k hkl)
        have Hsu := Lib.hid (rightTo_succ l k)
        obtain ⟨x, hx⟩ : ∃ x, x = itN l k := ⟨_, rfl⟩
        rw [← hx] at c0 c1 c2 c3 hp Hst Hsu
        clear hx hkl hB
        obtain ⟨p, d⟩ := x
        have HR := Lib.hid (fun W => Pat.right_any p W hp)
        obtain ⟨r, hr⟩ : ∃ r, r = p.right := ⟨_, rfl⟩
        simp only at c0 c1 c2 c3 Hst Hsu
        rw [← hr] at HR Hst Hsu
        clear hr hp
        obtain ⟨pb, po, ps⟩ := p
        unfold Pat.Pt.v at HR
        simp only at c0 c1 c2 HR
        cases r with
        | false =>
          have Hf := Lib.hid (Hst.out rfl)
          go_wp2_with fail
          refine (HR.out _).mono ?_
          rintro e w3 ⟨rfl, hB3⟩
          have HB3 := Lib.hid ((HB.out.alloc hsz (.cells #[.int .i64 pb, .int .i64 po, .string ps, .slice Ak d.length ck] 46)).trans (hB3.mono (by simp; omega)))
          clear hB3
          go_wp2_with fail
          go_step3
          refine And.intro rfl ?_
          go_wp2_with fail
          rw [Exit.noGoto_ret]
          go_ret
          exact ⟨ret_bool Hf.out.symm, HB3.out⟩
        | true =>
          go_wp2_with fail
          refine (HR.out _).mono ?_
          rintro e w3 ⟨rfl, hB3⟩
          have HB3 := Lib.hid ((HB.out.alloc hsz (.cells #[.int .i64 pb, .int .i64 po, .string ps, .slice Ak d.length ck] 46)).trans (hB3.mono (by simp; omega)))
          clear hB3
          go_wp2_with fail
          go_roundw
          case rel => exact ⟨k + 1, by omega, by go_num, by rw [Hsu.out, Hok.out]; rfl, HB3.out⟩
          case measure => simp [intOf]; omega
      · have hlti : ¬ (k : Int) < (n : Int) := by omega
        obtain rfl : k = n := by omega
        have Hd := Lib.hid (depsOf_any A c k l Hn.out wr (by rw [← Hn.out]; omega) ((HI.out.below hB).more hsz))
        have Hf := Lib.hid (Hall.out (by rw [← Hn.out]; exact h64) (by rw [← Hn.out]; exact Hok.out))
        clear hB
        go_wp2_with fail
        refine Hd.out.mono ?_
        rintro e w3 ⟨A3, c3, rfl, hM3, hB3⟩
        have HB3 := Lib.hid (HB.out.trans (hB3.mono hsz))
        have hgr := right_any A3 c3 (depsI l) w3 (by rw [length_depsI, ← Hn.out]; omega) (fun j hj => by rw [length_depsI] at hj; rw [rowI_depsI hj]; exact (HS.out j hj).2) hM3
        rw [length_depsI] at hgr
        have Hgr := Lib.hid hgr
        clear hB3 hM3 hgr
        go_wp2_with fail
        refine Hgr.out.mono ?_
        rintro e w' ⟨rfl, rfl⟩
        clear Hgr
        obtain ⟨r, hr⟩ : ∃ r, r = okB (depsI l) := ⟨_, rfl⟩
        have Hr : Hid (rightL l = r) := by unfold Hid; rw [Hf.out, hr]
        rw [← hr]
        clear hr
        cases r with
        | false =>
          go_wp2_with fail
          go_step3
          refine And.intro rfl ?_
          go_wp2_with fail
          rw [Exit.noGoto_ret]
          go_ret
          exact ⟨ret_bool Hr.out.symm, HB3.out⟩
        | true =>
          go_wp2_with fail
          rw [jump_ret]
          go_ret
          exact ⟨ret_bool Hr.out.symm, HB3.out⟩
  · have Hf := Lib.hid (Hlong.out (by rw [← Hn.out]; exact h64))
    have h64' : ¬ (n : Int) ≤ 64 := by omega
    go_enter Try.func15, Try.ntmps15
    go_wp2_with fail
    refine wp_scope_on 0 rfl ?_
    go_wp2_with fail
    go_step3
    refine And.intro rfl ?_
    go_wp2_with fail
    rw [Exit.noGoto_ret]
    go_ret
    exact ⟨ret_bool Hf.out.symm, Below.refl _ _⟩
end Go.Proofs.Ytkfjkhacchbkeaa
