/- Contracts of Same, the program's and the document's. -/
import Derived.Test.YtpcindemkkdbbaaCC
import Derived.Test.YtpcindemkkdbbaaT
namespace Go.Proofs.Ytpcindemkkdbbaa
set_option linter.unusedVariables false
set_option linter.unusedSimpArgs false
open Go.RowKit

def sameC (x y : Cy) : Bool := decide (x.ix = y.ix) && (decide (x.bl = y.bl) && (decide (x.fb = y.fb) && (decide (x.fi = y.fi) && (decide (x.ro = y.ro) && ((x.us == y.us) && (x.is == y.is))))))
theorem sameC_iff {x y : Cy} : sameC x y = true ↔ x = y := by
  unfold sameC
  simp only [Bool.and_eq_true, decide_eq_true_eq, beq_iff_eq]
  constructor
  · rintro ⟨h0, h1, h2, h3, h4, h5, h6⟩
    cases x; cases y; simp_all
  · rintro rfl; exact ⟨rfl, rfl, rfl, rfl, rfl, rfl, rfl⟩

theorem same_def (aix abl afb afi aro : Int) (aus ais : List Int) (bix bbl bfb bfi bro : Int) (bus bis : List Int) : sameC ⟨aix, abl, afb, afi, aro, aus, ais⟩ ⟨bix, bbl, bfb, bfi, bro, bus, bis⟩ = (decide (aix = bix) && (decide (abl = bbl) && (decide (aro = bro) && (decide (afb = bfb) && (decide (afi = bfi) && ((aus == bus) && ((ais == bis)))))))) := by
  rw [Bool.eq_iff_iff]
  unfold sameC
  simp only [Bool.and_eq_true, decide_eq_true_eq, beq_iff_eq]
  constructor
  · rintro ⟨h0, h1, h2, h3, h4, h5, h6⟩; exact ⟨h0, h1, h4, h2, h3, h5, h6⟩
  · rintro ⟨h0, h1, h4, h2, h3, h5, h6⟩; exact ⟨h0, h1, h2, h3, h4, h5, h6⟩
set_option maxRecDepth 100000 in
set_option maxHeartbeats 8000000 in
theorem same_any (x y : Cy) (A : Option Addr) (c : Nat) (A2 : Option Addr) (d : Nat) (B : Option Addr) (e : Nat) (B2 : Option Addr) (f : Nat) (w : World) (hx : SmallC x) (hy : SmallC y) (hU : Ints w w.heap.size A x.us) (hI : Ints w w.heap.size A2 x.is) (hU2 : Ints w w.heap.size B y.us) (hI2 : Ints w w.heap.size B2 y.is) :
    Calls Try.prog 43 #[x.v A c A2 d, y.v B e B2 f] w fun e w' => e = .returned (.bool (sameC x y)) ∧ Below w.heap.size w w' := by
  have HU : Hid (∀ W, Below w.heap.size w W → Calls Try.prog 66 #[.slice A x.us.length c, .slice B y.us.length e] W fun e w' => e = .returned (.bool (x.us == y.us)) ∧ ∃ q, w' = W.drewN q) := fun W hB => equal_any A c x.us B e y.us W hx.1 hy.1 (hU.next hB) (hU2.next hB)
  have HI : Hid (∀ W, Below w.heap.size w W → Calls Try.prog 66 #[.slice A2 x.is.length d, .slice B2 y.is.length f] W fun e w' => e = .returned (.bool (x.is == y.is)) ∧ ∃ q, w' = W.drewN q) := fun W hB => equal_any A2 d x.is B2 f y.is W hx.2 hy.2 (hI.next hB) (hI2.next hB)
  have HB : Hid (∀ o1 o2 q, Below w.heap.size w (((w.alloc o1).alloc o2).drewN q)) := fun o1 o2 q => bdn (((Below.refl _ _).alloc (Nat.le_refl _) _).alloc (by simp) _) q
  clear hU hI hU2 hI2 hx hy
  obtain ⟨aix, abl, afb, afi, aro, aus, ais⟩ := x
  obtain ⟨bix, bbl, bfb, bfi, bro, bus, bis⟩ := y
  have HR := Lib.hid (same_def aix abl afb afi aro aus ais bix bbl bfb bfi bro bus bis)
  unfold Cy.v
  simp only at HU HI ⊢
  obtain ⟨R, hR⟩ : ∃ R, R = sameC ⟨aix, abl, afb, afi, aro, aus, ais⟩ ⟨bix, bbl, bfb, bfi, bro, bus, bis⟩ := ⟨_, rfl⟩
  rw [← hR] at HR ⊢
  clear hR
  obtain ⟨r3, h3⟩ : ∃ r, r = (aus == bus) := ⟨_, rfl⟩
  obtain ⟨r4, h4⟩ : ∃ r, r = (ais == bis) := ⟨_, rfl⟩
  rw [← h3] at HR HU
  rw [← h4] at HR HI
  clear h3 h4
  obtain ⟨n1, h1⟩ : ∃ n1, n1 = aus.length := ⟨_, rfl⟩
  obtain ⟨n2, h2⟩ : ∃ n2, n2 = ais.length := ⟨_, rfl⟩
  obtain ⟨n3, h3⟩ : ∃ n3, n3 = bus.length := ⟨_, rfl⟩
  obtain ⟨n4, h4⟩ : ∃ n4, n4 = bis.length := ⟨_, rfl⟩
  rw [← h1, ← h3] at HU
  rw [← h2, ← h4] at HI
  rw [← h1, ← h2, ← h3, ← h4]
  clear h1 h2 h3 h4
  have H3 : Hid (∀ W, Below w.heap.size w W → Calls Try.prog 66 #[.slice A n1 c, .slice B n3 e] W fun e w' => e = .returned (.bool r3) ∧ ∃ q, w' = W.drewN q) := HU.out
  have H4 : Hid (∀ W q, Below w.heap.size w W → Calls Try.prog 66 #[.slice A2 n2 d, .slice B2 n4 f] (W.drewN q) fun e w' => e = .returned (.bool r4) ∧ ∃ q', w' = (W.drewN q).drewN q') := fun W q hB => HI.out (W.drewN q) (bdn hB q)
  have HB0 : Hid (∀ o1 o2, Below w.heap.size w ((w.alloc o1).alloc o2)) := fun o1 o2 => ((Below.refl _ _).alloc (Nat.le_refl _) _).alloc (by simp) _
  have HB1 : Hid (∀ o1 o2, Below w.heap.size w ((w.alloc o1).alloc o2)) := HB0.out
  have T3 : Hid True := trivial
  clear HU HI
  by_cases hix : aix = bix
  case neg =>
    rw [decide_eq_false hix] at HR
    have he : (aix == bix) = false := beq_eq_false_iff_ne.2 hix
    clear hix
    have Hf : Hid (R = false) := HR.out
    go_enter Try.func43, Try.ntmps43
    go_wp2_with fail
    go_ret
    exact ⟨ret_bool Hf.out.symm, HB0.out _ _⟩
  rw [decide_eq_true hix] at HR
  subst hix
  by_cases hbl : abl = bbl
  case neg =>
    rw [decide_eq_false hbl] at HR
    have he : (abl == bbl) = false := beq_eq_false_iff_ne.2 hbl
    clear hbl
    have Hf : Hid (R = false) := HR.out
    go_enter Try.func43, Try.ntmps43
    go_wp2_with fail
    go_ret
    exact ⟨ret_bool Hf.out.symm, HB0.out _ _⟩
  rw [decide_eq_true hbl] at HR
  subst hbl
  by_cases hro : aro = bro
  case neg =>
    rw [decide_eq_false hro] at HR
    have he : (aro == bro) = false := beq_eq_false_iff_ne.2 hro
    clear hro
    have Hf : Hid (R = false) := HR.out
    go_enter Try.func43, Try.ntmps43
    go_wp2_with fail
    go_ret
    exact ⟨ret_bool Hf.out.symm, HB0.out _ _⟩
  rw [decide_eq_true hro] at HR
  subst hro
  by_cases hfb : afb = bfb
  case neg =>
    rw [decide_eq_false hfb] at HR
    have he : (afb == bfb) = false := beq_eq_false_iff_ne.2 hfb
    clear hfb
    have Hf : Hid (R = false) := HR.out
    go_enter Try.func43, Try.ntmps43
    go_wp2_with fail
    go_ret
    exact ⟨ret_bool Hf.out.symm, HB0.out _ _⟩
  rw [decide_eq_true hfb] at HR
  subst hfb
  by_cases hfi : afi = bfi
  case neg =>
    rw [decide_eq_false hfi] at HR
    have he : (afi == bfi) = false := beq_eq_false_iff_ne.2 hfi
    clear hfi
    have Hf : Hid (R = false) := HR.out
    go_enter Try.func43, Try.ntmps43
    go_wp2_with fail
    go_ret
    exact ⟨ret_bool Hf.out.symm, HB0.out _ _⟩
  rw [decide_eq_true hfi] at HR
  subst hfi
  cases r3 with
  | false =>
    have Hf : Hid (R = false) := HR.out
    go_enter Try.func43, Try.ntmps43
    go_wp2_with (first | (go_at_call 66; have _t := T3; clear _t T3; (with_reducible refine (H3.out _ (HB0.out _ _)).mono ?_); rintro e w' ⟨rfl, q3, rfl⟩))
    go_ret
    exact ⟨ret_bool Hf.out.symm, HB.out _ _ _⟩
  | true =>
    cases r4 with
    | false =>
      have Hf : Hid (R = false) := HR.out
      go_enter Try.func43, Try.ntmps43
      go_wp2_with (first | (go_at_call 66; have _t := T3; clear _t T3; (with_reducible refine (H3.out _ (HB0.out _ _)).mono ?_); rintro e w' ⟨rfl, q3, rfl⟩) | (go_at_call 66; (with_reducible refine (H4.out _ _ (HB1.out _ _)).mono ?_); rintro e w' ⟨rfl, q4, rfl⟩))
      go_ret
      exact ⟨ret_bool Hf.out.symm, HB.out _ _ _⟩
    | true =>
      have Hf : Hid (R = true) := HR.out
      go_enter Try.func43, Try.ntmps43
      go_wp2_with (first | (go_at_call 66; have _t := T3; clear _t T3; (with_reducible refine (H3.out _ (HB0.out _ _)).mono ?_); rintro e w' ⟨rfl, q3, rfl⟩) | (go_at_call 66; (with_reducible refine (H4.out _ _ (HB1.out _ _)).mono ?_); rintro e w' ⟨rfl, q4, rfl⟩))
      go_ret
      exact ⟨ret_bool Hf.out.symm, HB.out _ _ _⟩

theorem refSame_def (aix abl afb afi aro : Int) (aus ais : List Int) (bix bbl bfb bfi bro : Int) (bus bis : List Int) : sameC ⟨aix, abl, afb, afi, aro, aus, ais⟩ ⟨bix, bbl, bfb, bfi, bro, bus, bis⟩ = (decide (aix = bix) && (decide (abl = bbl) && (decide (afb = bfb) && (decide (afi = bfi) && (decide (aro = bro) && ((aus == bus) && ((ais == bis)))))))) := rfl
set_option maxRecDepth 100000 in
set_option maxHeartbeats 8000000 in
theorem refSame_any (x y : Cy) (A : Option Addr) (c : Nat) (A2 : Option Addr) (d : Nat) (B : Option Addr) (e : Nat) (B2 : Option Addr) (f : Nat) (w : World) (hx : SmallC x) (hy : SmallC y) (hU : Ints w w.heap.size A x.us) (hI : Ints w w.heap.size A2 x.is) (hU2 : Ints w w.heap.size B y.us) (hI2 : Ints w w.heap.size B2 y.is) :
    Calls Try.prog 22 #[x.v A c A2 d, y.v B e B2 f] w fun e w' => e = .returned (.bool (sameC x y)) ∧ Below w.heap.size w w' := by
  have HU : Hid (∀ W, Below w.heap.size w W → Calls Try.prog 49 #[.slice A x.us.length c, .slice B y.us.length e] W fun e w' => e = .returned (.bool (x.us == y.us)) ∧ ∃ q, w' = W.drewN q) := fun W hB => refsame_any A c x.us B e y.us _ _ rfl rfl W hx.1 hy.1 (hU.next hB) (hU2.next hB)
  have HI : Hid (∀ W, Below w.heap.size w W → Calls Try.prog 49 #[.slice A2 x.is.length d, .slice B2 y.is.length f] W fun e w' => e = .returned (.bool (x.is == y.is)) ∧ ∃ q, w' = W.drewN q) := fun W hB => refsame_any A2 d x.is B2 f y.is _ _ rfl rfl W hx.2 hy.2 (hI.next hB) (hI2.next hB)
  have HB : Hid (∀ o1 o2 q, Below w.heap.size w (((w.alloc o1).alloc o2).drewN q)) := fun o1 o2 q => bdn (((Below.refl _ _).alloc (Nat.le_refl _) _).alloc (by simp) _) q
  clear hU hI hU2 hI2 hx hy
  obtain ⟨aix, abl, afb, afi, aro, aus, ais⟩ := x
  obtain ⟨bix, bbl, bfb, bfi, bro, bus, bis⟩ := y
  have HR := Lib.hid (refSame_def aix abl afb afi aro aus ais bix bbl bfb bfi bro bus bis)
  unfold Cy.v
  simp only at HU HI ⊢
  obtain ⟨R, hR⟩ : ∃ R, R = sameC ⟨aix, abl, afb, afi, aro, aus, ais⟩ ⟨bix, bbl, bfb, bfi, bro, bus, bis⟩ := ⟨_, rfl⟩
  rw [← hR] at HR ⊢
  clear hR
  obtain ⟨r3, h3⟩ : ∃ r, r = (aus == bus) := ⟨_, rfl⟩
  obtain ⟨r4, h4⟩ : ∃ r, r = (ais == bis) := ⟨_, rfl⟩
  rw [← h3] at HR HU
  rw [← h4] at HR HI
  clear h3 h4
  obtain ⟨n1, h1⟩ : ∃ n1, n1 = aus.length := ⟨_, rfl⟩
  obtain ⟨n2, h2⟩ : ∃ n2, n2 = ais.length := ⟨_, rfl⟩
  obtain ⟨n3, h3⟩ : ∃ n3, n3 = bus.length := ⟨_, rfl⟩
  obtain ⟨n4, h4⟩ : ∃ n4, n4 = bis.length := ⟨_, rfl⟩
  rw [← h1, ← h3] at HU
  rw [← h2, ← h4] at HI
  rw [← h1, ← h2, ← h3, ← h4]
  clear h1 h2 h3 h4
  have H3 : Hid (∀ W, Below w.heap.size w W → Calls Try.prog 49 #[.slice A n1 c, .slice B n3 e] W fun e w' => e = .returned (.bool r3) ∧ ∃ q, w' = W.drewN q) := HU.out
  have H4 : Hid (∀ W q, Below w.heap.size w W → Calls Try.prog 49 #[.slice A2 n2 d, .slice B2 n4 f] (W.drewN q) fun e w' => e = .returned (.bool r4) ∧ ∃ q', w' = (W.drewN q).drewN q') := fun W q hB => HI.out (W.drewN q) (bdn hB q)
  have HB0 : Hid (∀ o1 o2, Below w.heap.size w ((w.alloc o1).alloc o2)) := fun o1 o2 => ((Below.refl _ _).alloc (Nat.le_refl _) _).alloc (by simp) _
  have HB1 : Hid (∀ o1 o2, Below w.heap.size w ((w.alloc o1).alloc o2)) := HB0.out
  have T3 : Hid True := trivial
  clear HU HI
  by_cases hix : aix = bix
  case neg =>
    rw [decide_eq_false hix] at HR
    have he : (aix == bix) = false := beq_eq_false_iff_ne.2 hix
    clear hix
    have Hf : Hid (R = false) := HR.out
    go_enter Try.func22, Try.ntmps22
    go_wp2_with fail
    go_ret
    exact ⟨ret_bool Hf.out.symm, HB0.out _ _⟩
  rw [decide_eq_true hix] at HR
  subst hix
  by_cases hbl : abl = bbl
  case neg =>
    rw [decide_eq_false hbl] at HR
    have he : (abl == bbl) = false := beq_eq_false_iff_ne.2 hbl
    clear hbl
    have Hf : Hid (R = false) := HR.out
    go_enter Try.func22, Try.ntmps22
    go_wp2_with fail
    go_ret
    exact ⟨ret_bool Hf.out.symm, HB0.out _ _⟩
  rw [decide_eq_true hbl] at HR
  subst hbl
  by_cases hfb : afb = bfb
  case neg =>
    rw [decide_eq_false hfb] at HR
    have he : (afb == bfb) = false := beq_eq_false_iff_ne.2 hfb
    clear hfb
    have Hf : Hid (R = false) := HR.out
    go_enter Try.func22, Try.ntmps22
    go_wp2_with fail
    go_ret
    exact ⟨ret_bool Hf.out.symm, HB0.out _ _⟩
  rw [decide_eq_true hfb] at HR
  subst hfb
  by_cases hfi : afi = bfi
  case neg =>
    rw [decide_eq_false hfi] at HR
    have he : (afi == bfi) = false := beq_eq_false_iff_ne.2 hfi
    clear hfi
    have Hf : Hid (R = false) := HR.out
    go_enter Try.func22, Try.ntmps22
    go_wp2_with fail
    go_ret
    exact ⟨ret_bool Hf.out.symm, HB0.out _ _⟩
  rw [decide_eq_true hfi] at HR
  subst hfi
  by_cases hro : aro = bro
  case neg =>
    rw [decide_eq_false hro] at HR
    have he : (aro == bro) = false := beq_eq_false_iff_ne.2 hro
    clear hro
    have Hf : Hid (R = false) := HR.out
    go_enter Try.func22, Try.ntmps22
    go_wp2_with fail
    go_ret
    exact ⟨ret_bool Hf.out.symm, HB0.out _ _⟩
  rw [decide_eq_true hro] at HR
  subst hro
  cases r3 with
  | false =>
    have Hf : Hid (R = false) := HR.out
    go_enter Try.func22, Try.ntmps22
    go_wp2_with (first | (go_at_call 49; have _t := T3; clear _t T3; (with_reducible refine (H3.out _ (HB0.out _ _)).mono ?_); rintro e w' ⟨rfl, q3, rfl⟩))
    go_ret
    exact ⟨ret_bool Hf.out.symm, HB.out _ _ _⟩
  | true =>
    cases r4 with
    | false =>
      have Hf : Hid (R = false) := HR.out
      go_enter Try.func22, Try.ntmps22
      go_wp2_with (first | (go_at_call 49; have _t := T3; clear _t T3; (with_reducible refine (H3.out _ (HB0.out _ _)).mono ?_); rintro e w' ⟨rfl, q3, rfl⟩) | (go_at_call 49; (with_reducible refine (H4.out _ _ (HB1.out _ _)).mono ?_); rintro e w' ⟨rfl, q4, rfl⟩))
      go_ret
      exact ⟨ret_bool Hf.out.symm, HB.out _ _ _⟩
    | true =>
      have Hf : Hid (R = true) := HR.out
      go_enter Try.func22, Try.ntmps22
      go_wp2_with (first | (go_at_call 49; have _t := T3; clear _t T3; (with_reducible refine (H3.out _ (HB0.out _ _)).mono ?_); rintro e w' ⟨rfl, q3, rfl⟩) | (go_at_call 49; (with_reducible refine (H4.out _ _ (HB1.out _ _)).mono ?_); rintro e w' ⟨rfl, q4, rfl⟩))
      go_ret
      exact ⟨ret_bool Hf.out.symm, HB.out _ _ _⟩
end Go.Proofs.Ytpcindemkkdbbaa
