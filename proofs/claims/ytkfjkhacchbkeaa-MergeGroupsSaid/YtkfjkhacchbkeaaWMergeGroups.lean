/- MergeGroups holds whatever comes in. Here: the walk of the law's text. -/
import Derived.Test.YtkfjkhacchbkeaaEE
import Derived.Test.YtkfjkhacchbkeaaX
import Derived.Test.YtkfjkhacchbkeaaGYF
namespace Go.Proofs.Ytkfjkhacchbkeaa
set_option linter.unusedVariables false
set_option linter.unusedSimpArgs false
open Go.RowKit

set_option maxRecDepth 100000 in
set_option maxHeartbeats 4000000 in
theorem MergeGroups.walk (a0 : Option Addr) (len0 cap0 : Nat) (l0 : List It) (W : World) (h0 : IsItems W a0 len0 cap0 l0) :
    Calls Try.prog 3 #[.slice a0 len0 cap0] W fun e W' => e = .returned (.bool true) ∧ Below W.heap.size W W' := by
  have HF := Lib.hid (few_any a0 len0 cap0 l0 W h0)
  have HSm := Lib.hid (small_fewL h0)
  have hl24 := length_fewL l0
  unfold FewSays at HF
  obtain ⟨l, hl⟩ : ∃ l, l = fewL l0 := ⟨_, rfl⟩
  rw [← hl] at HF HSm hl24
  have hln : l.length ≤ 24 := by omega
  obtain ⟨n, hn⟩ : ∃ n, n = l.length := ⟨_, rfl⟩
  have HR1 := Lib.hid (fun A c W (h : Items W W.heap.size A l) => mright_any A c n l hn W (by omega) HSm.out h)
  have HR2 := Lib.hid (fun A c W (h : Items W W.heap.size A l) => refmright_any A c n l hn W (by omega) HSm.out h)
  have HG1 := Lib.hid (fun A c W (h : Items W W.heap.size A l) => groups_any A c n l hn W (by omega) HSm.out h)
  have HG2 := Lib.hid (fun A c W (h : Items W W.heap.size A l) => refgroups_any A c n l hn W (by omega) HSm.out h)
  have HD1 := Lib.hid (fun A c W (h : Items W W.heap.size A l) => deps_any A c n l hn W (by omega) HSm.out h)
  have HD2 := Lib.hid (fun A c W (h : Items W W.heap.size A l) => refdeps_any A c n l hn W (by omega) HSm.out h)
  have hgl := (groupsL_len l).1
  have Hgr : Hid (∀ k, k < (rowsI (groupsL l)).length → (rowI (rowsI (groupsL l)) k).length ≤ 1000) := fun k _ => by rw [rowI_rowsI, length_natsI]; have := groupsL_rowlen l k; omega
  have Hdr : Hid (∀ k, k < (rowsI (mdepsL l)).length → (rowI (rowsI (mdepsL l)) k).length ≤ 1000) := fun k hk => by
    rw [length_rowsI, length_mdepsL] at hk
    rw [rowI_rowsI, length_natsI, rowN_mdeps hk]
    unfold depG
    have := among_len (groupsL l).length (natsI (othersL (depsN l) (ofL l) k (rowN (groupsL l) k)))
    omega
  have hml := length_mdepsL l
  obtain ⟨r, hr⟩ : ∃ r, r = rightL l := ⟨_, rfl⟩
  rw [← hr] at HR1 HR2
  obtain ⟨gs, hgs⟩ : ∃ gs, gs = groupsL l := ⟨_, rfl⟩
  rw [← hgs] at HG1 HG2 hgl Hgr hml
  obtain ⟨ds, hds⟩ : ∃ ds, ds = mdepsL l := ⟨_, rfl⟩
  rw [← hds] at HD1 HD2 Hdr hml
  have hdl : ds.length ≤ 64 := by omega
  rw [← hn] at hln HF
  have T1 : Hid True := trivial
  clear hl hl24 hn h0 hr hgs hds hml
  go_enter Try.func3, Try.ntmps3
  go_wp2_with fail
  refine HF.out.mono ?_
  rintro e w1 ⟨A, c, rfl, hI1, hB1⟩
  have HI1 := Lib.hid hI1
  have HB1 := Lib.hid hB1
  clear hI1 hB1 HF
  cases r <;>
  · go_wp2_with (first
      | (go_at_call 14; refine (live_any _).mono ?_; rintro e w2 ⟨rfl, hB2⟩; have HI2 := Lib.hid (HI1.out.next hB2); have HB2 := Lib.hid (HB1.out.trans (hB2.mono HB1.out.size)); clear hB2)
      | (go_at_call 15; refine (HR1.out A c w2 HI2.out).mono ?_; rintro e w3 ⟨rfl, hB3⟩; have HI3 := Lib.hid (HI2.out.next hB3); have HB3 := Lib.hid (HB2.out.trans (hB3.mono HB2.out.size)); clear hB3)
      | (go_at_call 16; refine (HR2.out A c w3 HI3.out).mono ?_; rintro e w4 ⟨rfl, hB4⟩; have HI4 := Lib.hid (HI3.out.next hB4); have HB4 := Lib.hid (HB3.out.trans (hB4.mono HB3.out.size)); clear hB4)
      | (go_at_call 18; refine (HG1.out A c w4 HI4.out).mono ?_; rintro e w5 ⟨A5, c5, rfl, hM5, hB5⟩; have HM5 := Lib.hid hM5; have HI5 := Lib.hid (HI4.out.next hB5); have HB5 := Lib.hid (HB4.out.trans (hB5.mono HB4.out.size)); clear hB5 hM5)
      | (go_at_call 19; refine (HG2.out A c w5 HI5.out).mono ?_; rintro e w6 ⟨A6, c6, rfl, hM6, hB6⟩; have HN6 := Lib.hid hM6; have HM6 := Lib.hid (HM5.out.next hB6); have HI6 := Lib.hid (HI5.out.next hB6); have HB6 := Lib.hid (HB5.out.trans (hB6.mono HB5.out.size)); clear hB6 hM6)
      | (go_at_call 17; have _t := T1; clear _t T1; refine (same_rows A5 A6 c5 c6 gs.length gs.length (rowsI gs) w6 (length_rowsI _).symm (length_rowsI _).symm HM6.out HN6.out (by rw [length_rowsI]; omega) Hgr.out).mono ?_; rintro e w7 ⟨rfl, hB7⟩; have HI7 := Lib.hid (HI6.out.next hB7); have HB7 := Lib.hid (HB6.out.trans (hB7.mono HB6.out.size)); clear hB7)
      | (go_at_call 20; refine (HD1.out A c w7 HI7.out).mono ?_; rintro e w8 ⟨A8, c8, rfl, hM8, hB8⟩; have HM8 := Lib.hid hM8; have HI8 := Lib.hid (HI7.out.next hB8); have HB8 := Lib.hid (HB7.out.trans (hB8.mono HB7.out.size)); clear hB8 hM8)
      | (go_at_call 21; refine (HD2.out A c w8 HI8.out).mono ?_; rintro e w9 ⟨A9, c9, rfl, hM9, hB9⟩; have HN9 := Lib.hid hM9; have HM9 := Lib.hid (HM8.out.next hB9); have HB9 := Lib.hid (HB8.out.trans (hB9.mono HB8.out.size)); clear hB9 hM9)
      | (go_at_call 17; refine (same_rows A8 A9 c8 c9 ds.length ds.length (rowsI ds) w9 (length_rowsI _).symm (length_rowsI _).symm HM9.out HN9.out (by rw [length_rowsI]; omega) Hdr.out).mono ?_; rintro e w10 ⟨rfl, hB10⟩; have HB10 := Lib.hid (HB9.out.trans (hB10.mono HB9.out.size)); clear hB10))
    go_ret
    exact ⟨rfl, HB10.out⟩
end Go.Proofs.Ytkfjkhacchbkeaa
