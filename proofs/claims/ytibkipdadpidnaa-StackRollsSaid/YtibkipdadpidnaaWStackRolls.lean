/- Whatever bytes, deeds and numbers come in, StackRolls returns true, and they read afterwards as before. No condition. Here: the walk of the law's text. -/
import Derived.Test.YtibkipdadpidnaaSL
import Derived.Test.YtibkipdadpidnaaSE
set_option linter.unusedVariables false
set_option linter.unusedSimpArgs false
namespace Go.Proofs.Ytibkipdadpidnaa
open Go.RowKit
set_option maxRecDepth 100000 in
set_option maxHeartbeats 2000000 in
theorem StackRolls.walk (a1 : Option Addr) (len1 cap1 : Nat) (bs : List Int) (a2 : Option Addr) (len2 cap2 : Nat) (ds : List Dd) (a3 : Option Addr) (len3 cap3 : Nat) (l : List Int) (W : World) (hb : IsBytes W a1 len1 cap1 bs) (hd : IsDeeds W a2 len2 cap2 ds) (hl : IsInts W a3 len3 cap3 l) :
    Calls Try.prog 4 #[.slice a1 len1 cap1, .slice a2 len2 cap2, .slice a3 len3 cap3] W fun e W' => e = .returned (.bool true) ∧ Below W.heap.size W W' := by
  obtain ⟨rfl, b2, b3, b4⟩ := hb
  obtain ⟨rfl, d2, d3, d4⟩ := hd
  obtain ⟨rfl, l2, l3, l4, l5⟩ := hl
  have HP := Lib.hid (play_any a1 cap1 bs a2 cap2 ds W b4 d2 d3 d4)
  have HFw := Lib.hid (fun V => few_any a3 l cap3 V l2 l3)
  have hml : (fewI l).length ≤ 900 := by have := fewI_len l; omega
  have HI : Hid (∀ V, Below W.heap.size W V → Ints V V.heap.size a3 (fewI l)) := fun V h => ((l4.take 40).below h).more h.size
  have Hmw : Hid (∀ x ∈ fewI l, WfI x) := fun x hx => l5 x (fewI_mem hx)
  clear b2 b3 b4 d2 d3 d4 l2 l3 l4 l5
  go_enter Try.func4, Try.ntmps4
  go_wp2_with fail
  refine HP.out.mono ?_
  rintro e w1 ⟨g, r, s, rfl, hT, hO, hB⟩
  have HB := Lib.hid hB
  have HQ : Hid (∀ V, Below W.heap.size W V → Two W.heap.size V g r s s → Calls Try.prog 14 #[.pointer (some ⟨g, 0, none⟩), .slice a3 (fewI l).length cap3] V (GivesR V (rollF s (fewI l)) (mayE s.l (fewI l)))) := fun V h t => q_roll t hO (by omega) a3 cap3 _ hml Hmw.out (HI.out V h)
  have HD : Hid (∀ V, Below W.heap.size W V → Two W.heap.size V g r s s → Calls Try.prog 16 #[.pointer (some ⟨r, 0, none⟩), .slice a3 (fewI l).length cap3] V (GivesR V (rollF s (fewI l)) (mayE s.l (fewI l)))) := fun V h t => d_roll t hO (by omega) t.len a3 cap3 _ hml (HI.out V h)
  have HS : Hid (∀ V, Two W.heap.size V g r s s → Calls Try.prog 13 #[.pointer (some ⟨g, 0, none⟩), .pointer (some ⟨r, 0, none⟩)] V fun e w' => e = .returned (.bool true) ∧ Below V.heap.size V w') := fun V t => same_any _ g r 30 s _ hO (by omega) t
  have HN : Hid (∀ V V', Two W.heap.size V g r s s → Below W.heap.size W V → Below V.heap.size V V' → Two W.heap.size V' g r s s ∧ Below W.heap.size W V') := fun V V' t h k => ⟨t.fresh k, h.trans (k.mono h.size)⟩
  have H1 := Lib.hid (And.intro hT hB)
  clear hT hO hB
  generalize rollF s (fewI l) = f at *
  generalize mayE s.l (fewI l) = ee at *
  generalize (fewI l).length = fl at *
  go_wp2_with (first
    | (go_at_call 12; refine (live_any _).mono ?_; rintro e w2 ⟨rfl, hb2⟩; have H2 := Lib.hid (HN.out _ _ H1.out.1 H1.out.2 hb2); clear hb2)
    | (go_at_call 15; (with_reducible refine (HFw.out _).mono ?_); rintro e w4 ⟨rfl, rfl⟩)
    | (go_at_call 14; (with_reducible refine (HQ.out _ H2.out.2 H2.out.1).mono ?_); rintro e w3 ⟨A3, n3, c3, rfl, rfl, t3, hb3⟩; have H3 := Lib.hid (HN.out _ _ H2.out.1 H2.out.2 hb3); have T3 := Lib.hid t3; clear hb3 t3)
    | (go_at_call 16; (with_reducible refine (HD.out _ H3.out.2 H3.out.1).mono ?_); rintro e w4 ⟨A4, n4, c4, rfl, rfl, t4, hb4⟩; have H4 := Lib.hid (HN.out _ _ H3.out.1 H3.out.2 hb4); have x3 := ((T3.out.below hb4).more hb4.size).text c3 _ rfl; have x4 := t4.text c4 _ rfl; clear hb4 t4)
    | (go_at_call 13; (with_reducible refine (HS.out _ H4.out.1).mono ?_); rintro e w5 ⟨rfl, hb5⟩; have H5 := Lib.hid (HN.out _ _ H4.out.1 H4.out.2 hb5); clear hb5))
  go_ret
  exact ⟨by simp, H5.out.2⟩
end Go.Proofs.Ytibkipdadpidnaa
