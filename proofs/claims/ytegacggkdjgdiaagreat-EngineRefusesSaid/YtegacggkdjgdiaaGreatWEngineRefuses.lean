/- EngineRefuses. Here: the walk of the law's text. -/
import Derived.Test.YtegacggkdjgdiaaGreatSM
import Derived.WalkKit
import Derived.OpenShut
set_option linter.unusedVariables false
set_option linter.unusedSimpArgs false
namespace Go.Proofs.YtegacggkdjgdiaaGreat
open Go.RowKit Go.ChangeShapes Go.WideShapes Go.ChangeAt
section
variable {H' : Type} {enc : TypeId × Value → H'} {w : World} {base : Nat} {spare : Nat → Bool} {held : Bool}
theorem open_itemsC {a : Option Addr} {len cap : Nat} {d : DataW H'} {pl : List MemPlace} (h : DataW.Trod enc Tryz.prog w base spare held 44 (.slice a len cap) d pl) : ∃ L : List It, ItemsC w a len cap L := by
  obtain ⟨fuel, hf⟩ := h
  obtain ⟨A, n, c, l, e, hl⟩ := open_itemsC' hf
  simp [Value.cells] at e
  obtain ⟨rfl, rfl, rfl⟩ := e
  exact ⟨l, hl⟩
end
namespace EngineRefuses
/-- the items, as few hands them back -/
theorem few_it {w W : World} {a : Option Addr} {n c : Nat} {L : List It} {m : Nat} (h : ItemsC w a n c L) (hm : (fewL L).length = m) (hB : Below w.heap.size w W) {F : Nat → Prop} (hF : ∀ b, F b → w.heap.size ≤ b) (hl : ∀ b, F b → b < W.heap.size) :
    Calls Tryz.prog 18 #[.slice a n c] W fun e w' => ∃ A' c', e = .returned (.slice A' m c') ∧ ItemsF w' F A' (fewL L) ∧ Below W.heap.size W w' := by
  subst hm
  have h64 : I64 (0 : Int) := ⟨by decide, by decide⟩
  have hd : DdC w ⟨0, 0, a, n, c, L, false⟩ := ⟨h64, h64, h⟩
  exact few_its (x := ⟨0, 0, a, n, c, L, false⟩) rfl (hd.outside hB hF) hl
set_option maxRecDepth 100000 in
set_option maxHeartbeats 4000000 in
theorem walk (a0 : Option Addr) (len0 cap0 : Nat) (z0 : List Dd) (a1 : Option Addr) (len1 cap1 : Nat) (z1 : List It) (w : World) (h0 : z0.length = len0 ∧ DeedsAt w a0 z0 ∧ ∀ x ∈ z0, DdC w x) (h1 : ItemsC w a1 len1 cap1 z1) :
    Calls Tryz.prog 5 #[.slice a0 len0 cap0, .slice a1 len1 cap1] w fun e w' => e = .returned (.bool true) ∧ Below w.heap.size w w' := by
  obtain ⟨rfl, hA, hL⟩ := h0
  have HP := Lib.hid (play_any w a0 cap0 z0 hA hL)
  have H1 := Lib.hid h1
  clear hA hL h1
  generalize z0.length = len0 at HP
  unfold Played at HP
  obtain ⟨its, hits⟩ : ∃ its, its = fewL z1 := ⟨_, rfl⟩
  obtain ⟨m, hm⟩ : ∃ m, m = its.length := ⟨_, rfl⟩
  have hm12 : m ≤ 12 := by rw [hm, hits, length_fewL]; omega
  have Hits := Lib.hid hits
  have Hm := Lib.hid hm
  have Hsm : Hid (SmallI its) := by unfold Hid; rw [hits]; exact small_fewL H1.out.2.2.2.1
  clear hits hm
  go_enter Tryz.func5, Tryz.ntmps5
  go_wp2_with (first
    | (go_at_call 7; refine HP.out.mono ?_; rintro en x1 ⟨e, r, rfl, hO⟩; have HO := Lib.hid hO; clear hO)
    | (go_at_call 8; refine (live_any _).mono ?_; rintro en x2 ⟨rfl, hb2⟩; have HO2 := Lib.hid (HO.out.next hb2); clear hb2))
  clear HP HO
  obtain ⟨S, l, lv, t, k, cc, F1, F2, HPr, hlo, hbw⟩ : ∃ S l lv t k cc F1 F2, Hid (PairAt x2 e r S l lv t k 24 cc F1 F2) ∧ Hid (∀ b, F1 b ∨ F2 b → w.heap.size ≤ b) ∧ Hid (Below w.heap.size w x2) := by
    obtain ⟨F, ⟨S, l, lv, t, k, cc, F1, F2, hP, rfl⟩, h2, h3⟩ := HO2.out
    exact ⟨S, l, lv, t, k, cc, F1, F2, hP, h2, h3⟩
  obtain ⟨n0, hn0⟩ : ∃ n0, n0 = l.length := ⟨_, rfl⟩
  have Hn0 := Lib.hid hn0
  clear hn0
  have KW0 : Hid (Calls Tryz.prog 15 #[.pointer (some ⟨e, 0, none⟩)] x2 fun en w' => ∃ A c, en = .returned (.slice A n0 c) ∧ Below x2.heap.size x2 w') := by
    refine (ewaiting HPr.out.eng).mono ?_
    rintro en w' ⟨A, c, rfl, _, hb⟩
    exact ⟨A, c, by rw [Hn0.out]; simp [numsL], hb⟩
  by_cases hr : refusesE 5 k l.length its = 0
  · have hok := refuses_ok hr
    have Hr := Lib.hid hr
    have h200 : (n0 : Int) + (m : Int) ≤ 200 := by have := hok.2.2; have := Hn0.out; have := Hm.out; omega
    have hk0 := HPr.out.k0
    have hkb := HPr.out.kb
    have hw1 : IntKind.i64.wrap ((n0 : Int) + (m : Int)) = (n0 : Int) + (m : Int) := by simp [IntKind.wrap, IntKind.bits, IntKind.signed]; omega
    have hw2 : IntKind.i64.wrap (k + (m : Int)) = k + (m : Int) := by simp [IntKind.wrap, IntKind.bits, IntKind.signed]; omega
    clear hr hok hkb hk0
    go_wp2_with (first
      | (go_at_call 15; refine (KW.out _ HX.out).mono ?_; rintro en u ⟨A, c, rfl, hb⟩; replace HX := Lib.hid (HX.out.trans (hb.mono HX.out.size)); clear hb)
      | (go_at_call 18; refine (KF.out _ HX.out).mono ?_; rintro en u ⟨A, c, rfl, hb⟩; replace HX := Lib.hid (HX.out.trans (hb.mono HX.out.size)); clear hb)
      | (go_at_call 19; refine (KR.out _ HX.out).mono ?_; rintro en u ⟨rfl, rfl⟩)
      | (go_at_call 20; refine (KN.out _ HX.out).mono ?_; rintro en u ⟨rfl, rfl⟩)
      | (go_at_call 15; refine KW0.out.mono ?_; rintro en x3 ⟨A3, c3, rfl, hb3⟩; have HB3 := Lib.hid hb3; have HW3 := Lib.hid (hbw.out.trans (hb3.mono hbw.out.size)); have HF3 := Lib.hid (few_it (F := F1) (m := m) H1.out (by rw [← Hits.out]; exact Hm.out.symm) HW3.out (fun b q => hlo.out b (.inl q)) (fun b q => Nat.lt_of_lt_of_le (HPr.out.eng.lt b q) hb3.size)); clear hb3 KW0)
      | (go_at_call 18; refine HF3.out.mono ?_; rintro en x4 ⟨A4, c4, rfl, hi4, hb4⟩; have HB4 := Lib.hid (HB3.out.trans (hb4.mono HB3.out.size)); have HI4 : Hid (ItemsF x4 F1 A4 its) := (by unfold Hid; rw [Hits.out]; exact hi4); have HA4 : Hid (Calls Tryz.prog 17 #[.pointer (some ⟨e, 0, none⟩), .slice A4 m c4] x4 fun en w' => en = .returned (.tuple #[.int .i64 k, .int .i64 0]) ∧ Went x4 w' F1 (fun F' => ∃ l', Added k l k its l' ∧ Eng w' e 5 S cc (k + its.length) l' F')) := (by rw [Hm.out]; exact eadd (HPr.out.eng.fresh HB4.out) A4 c4 its HI4.out Hsm.out HPr.out.k0 (by have := HPr.out.kb; omega) Hr.out); clear hi4 hb4 HF3)
      | (go_at_call 17; refine HA4.out.mono ?_; rintro en x5 ⟨rfl, F1', ⟨l', ha, he⟩, hk1, hf1⟩; have HE5 := Lib.hid he
         have HX : Hid (Below x5.heap.size x5 x5) := Below.refl _ _
         have HW5 : Hid (Below w.heap.size w x5) := (hbw.out.trans (HB4.out.mono hbw.out.size)).trans (hk1.below (fun b q => hlo.out b (.inl q)) (Nat.le_trans hbw.out.size HB4.out.size))
         have hl' : l'.length = n0 + m := by have := ha.length; rw [this, ← Hn0.out, ← Hm.out]
         have KW : Hid (∀ W, Below x5.heap.size x5 W → Calls Tryz.prog 15 #[.pointer (some ⟨e, 0, none⟩)] W fun en w' => ∃ A c, en = .returned (.slice A (n0 + m) c) ∧ Below W.heap.size W w') := fun W hW => by
           refine (ewaiting (HE5.out.fresh hW)).mono ?_
           rintro en w' ⟨A, c, rfl, _, hb⟩
           exact ⟨A, c, by rw [← hl']; simp [numsL], hb⟩
         have KF : Hid (∀ W, Below x5.heap.size x5 W → Calls Tryz.prog 18 #[.slice a1 len1 cap1] W fun en w' => ∃ A c, en = .returned (.slice A m c) ∧ Below W.heap.size W w') := fun W hW => by
           refine (few_it (F := fun _ => False) (m := m) H1.out (by rw [← Hits.out]; exact Hm.out.symm) (HW5.out.trans (hW.mono HW5.out.size)) (fun b q => q.elim) (fun b q => q.elim)).mono ?_
           rintro en w' ⟨A, c, rfl, _, hb⟩
           exact ⟨A, c, rfl, hb⟩
         have KR : Hid (∀ W, Below x5.heap.size x5 W → Calls Tryz.prog 19 #[.pointer (some ⟨r, 0, none⟩)] W fun en w' => en = .returned (.int .i64 k) ∧ W = w') := fun W hW => qnext (((HPr.out.ref.fresh HB4.out).keep hk1 (fun b q1 q2 => HPr.out.sep b q2 q1) (HPr.out.eng.fresh HB4.out).ni).fresh hW)
         have KN : Hid (∀ W, Below x5.heap.size x5 W → Calls Tryz.prog 20 #[.pointer (some ⟨e, 0, none⟩)] W fun en w' => en = .returned (.int .i64 (k + (m : Int))) ∧ W = w') := fun W hW => by
           have := enext (HE5.out.fresh hW)
           rw [← Hm.out] at this
           exact this
         clear ha he hk1 hf1 hl' HA4))
    go_ret
    exact ⟨rfl, HW5.out.trans (HX.out.mono HW5.out.size)⟩
  · obtain ⟨rE, hrE⟩ : ∃ rE, rE = refusesE 5 k l.length its := ⟨_, rfl⟩
    have Hr := Lib.hid hr
    have HrE := Lib.hid hrE
    have hr0 : ¬ rE = 0 := by rw [hrE]; exact hr
    clear hr hrE
    go_wp2_with (first
      | (go_at_call 15; refine KW0.out.mono ?_; rintro en x3 ⟨A3, c3, rfl, hb3⟩; have HB3 := Lib.hid hb3; have HW3 := Lib.hid (hbw.out.trans (hb3.mono hbw.out.size)); have HF3 := Lib.hid (few_it (F := F1) (m := m) H1.out (by rw [← Hits.out]; exact Hm.out.symm) HW3.out (fun b q => hlo.out b (.inl q)) (fun b q => Nat.lt_of_lt_of_le (HPr.out.eng.lt b q) hb3.size)); clear hb3 KW0)
      | (go_at_call 18; refine HF3.out.mono ?_; rintro en x4 ⟨A4, c4, rfl, hi4, hb4⟩; have HB4 := Lib.hid (HB3.out.trans (hb4.mono HB3.out.size)); have HI4 : Hid (ItemsF x4 F1 A4 its) := (by unfold Hid; rw [Hits.out]; exact hi4); have HA4 : Hid (Calls Tryz.prog 17 #[.pointer (some ⟨e, 0, none⟩), .slice A4 m c4] x4 fun en w' => en = .returned (.tuple #[.int .i64 0, .int .i64 rE]) ∧ Below x4.heap.size x4 w') := (by rw [Hm.out, HrE.out]; exact eadd_no (HPr.out.eng.fresh HB4.out) A4 c4 its HI4.out Hsm.out (by have := Hm.out; omega) Hr.out); clear hi4 hb4 HF3)
      | (go_at_call 17; refine HA4.out.mono ?_; rintro en x5 ⟨rfl, hb5⟩; have HS5 := Lib.hid ((HO2.out.next (HB4.out.trans (hb5.mono HB4.out.size))).same0 (by decide)); clear hb5 HA4)
      | (go_at_call 9; refine HS5.out.mono ?_; rintro en x6 ⟨rfl, hO6⟩; have HO6 := Lib.hid hO6; clear hO6 HS5))
    go_ret
    exact ⟨rfl, HO6.out.choose_spec.2.2⟩
end EngineRefuses
end Go.Proofs.YtegacggkdjgdiaaGreat
