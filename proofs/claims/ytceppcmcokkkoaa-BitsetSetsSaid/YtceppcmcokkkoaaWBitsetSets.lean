/- BitsetSets is true of every bytes, bit and switch, and leaves its arguments as they are. Conditions: none. Here: the walk of the law's text. -/
import Derived.Test.YtceppcmcokkkoaaL
import Derived.WalkKit
import Derived.OpenShut
namespace Go.Proofs.Ytceppcmcokkkoaa.bitsetSets
open Go.RowKit
set_option maxRecDepth 100000 in
set_option maxHeartbeats 1000000 in
theorem walk (a0 : Option Addr) (len0 cap0 : Nat) (z0 : List Int) (a1 : Int) (a2 : Bool) (w : World) (w0 : IsRow .u8 w a0 len0 cap0 z0) (w1 : (Lit.int .i64 a1).wf = true) :
    Calls Try.prog 8 #[.slice a0 len0 cap0, .int .i64 a1, .bool a2] w fun e w' => e = .returned (.bool true) ∧ Below w.heap.size w w' := by
  obtain ⟨l, hl, hlc, hcm, hb, hfew⟩ := few_row w0
  have hl1 : l.length ≤ 1000 := by omega
  have r1 := bounds_i64 w1
  have Hfew := Lib.hid hfew
  have hall := hb.1
  have hown0 := own_empty w
  clear hfew w0 w1
  go_enter Try.func8, Try.ntmps8
  go_wp2_with fail
  refine Hfew.out.mono ?_
  rintro e w' ⟨rfl, rfl⟩
  go_wp2_with (at_builtin; refine wpList_append_bytes rfl _ _ rfl w.heap.size _ _ _ rfl hown0 _ _ l cap0 l.length rfl rfl (hb.below ((Below.refl _ w).alloc (Nat.le_refl _) _)) ?c1 ?c2 ?_)
  case c1 => omega
  case c2 => simp
  intro v7 wa hown hgrow
  have hB1 : Below w.heap.size w wa := below_copy hgrow
  obtain ⟨A7, c7, rfl, hc7, hcm7, hb7⟩ := OwnB.form hown hall
  clear hown hgrow hown0
  have hba := hb.below hB1
  cases hh : hasB l.length a1 with
  | false =>
    have HH := Lib.hid hh
    clear hh
    go_wp2_with fail
    refine (set_no _ _ l _ _ _ r1 HH.out).mono ?_
    rintro e wb ⟨rfl, rfl⟩
    go_wp2_with fail
    refine (refset_no _ _ l _ _ _ r1 HH.out).mono ?_
    rintro e wb ⟨rfl, rfl⟩
    go_wp2_with fail
    refine (live_any _).mono ?_
    rintro e wb ⟨rfl, hB2⟩
    have hx := convert_empty wb none 0
    have hB02 : Below w.heap.size w wb := hB1.trans (hB2.mono hB1.size)
    have hb7b := hb7.below hB2
    have hbb := hba.below (hB2.mono hB1.size)
    go_wp2_with fail
    refine (get_any _ _ l _ _ _ hb7b (by unfold maxLen; omega) r1).mono ?_
    rintro e wc ⟨rfl, hq⟩
    have hq : Quiet wb wc := hq
    go_wp2_with fail
    refine (refget_any _ _ l _ _ _ (hq.bts hbb) (by unfold maxLen; omega) r1).mono ?_
    rintro e wd ⟨rfl, rfl⟩
    have ht7 := (hq.bts hb7b).text c7
    have ht0 := (hq.bts hbb).text cap0
    go_wp2
    go_ret
    exact ⟨rfl, hq.below hB02⟩
  | true =>
    obtain ⟨h0, h1⟩ := hasB_out hh
    obtain ⟨k, rfl⟩ := Int.eq_ofNat_of_zero_le h0
    have hk : k / 8 < l.length := by omega
    clear hh h0 h1
    go_wp2_with fail
    refine (set_yes _ _ l k _ _ hb7 hl1 hk).mono ?_
    rintro e wb ⟨rfl, hB2, hblk⟩
    have hbx := hblk.bts (setB_all hall k a2) hblk.lt
    have hB02 : Below w.heap.size w wb := hB1.trans (hB2.mono hB1.size)
    have hbb := hb.below hB02
    have hb7b := hb7.below hB2
    clear hblk
    go_wp2_with fail
    refine (refset_yes _ _ l k _ _ (hbb.more hB02.size) hl1 hk).mono ?_
    rintro e wc ⟨vy, rfl, hB3, hoy⟩
    obtain ⟨Ay, cy, rfl, hcy, hcmy, hby⟩ := hoy.form (setB_all hall k a2)
    have hB03 : Below w.heap.size w wc := hB02.trans (hB3.mono hB02.size)
    have hbxc := hbx.below hB3
    have hb7c := hb7b.below (hB3.mono hB2.size)
    have hbc := hb.below hB03
    clear hoy
    go_wp2_with fail
    refine (live_any _).mono ?_
    rintro e wd ⟨rfl, hB4⟩
    have hB04 : Below w.heap.size w wd := hB03.trans (hB4.mono hB03.size)
    have tx := (hbxc.below (hB4.mono hB3.size)).text l.length
    have ty := (hby.below hB4).text cy
    have hb7d := hb7c.below (hB4.mono (Nat.le_trans hB2.size hB3.size))
    have hbd := hb.below hB04
    rw [length_setB] at tx ty
    rw [length_setB]
    go_wp2_with fail
    refine (get_any _ _ l _ _ _ hb7d (by unfold maxLen; omega) r1).mono ?_
    rintro e we ⟨rfl, hq⟩
    have hq : Quiet wd we := hq
    go_wp2_with fail
    refine (refget_any _ _ l _ _ _ (hq.bts hbd) (by unfold maxLen; omega) r1).mono ?_
    rintro e wf ⟨rfl, rfl⟩
    have ht7 := (hq.bts hb7d).text c7
    have ht0 := (hq.bts hbd).text cap0
    go_wp2
    go_ret
    exact ⟨rfl, hq.below hB04⟩
end Go.Proofs.Ytceppcmcokkkoaa.bitsetSets
