/- Texts in one: QK QL QM QN QO QP QR QT FN. -/
import Derived.Test.YtegacggkdjgdiaaQJ
/- The document's engine: Write, whatever there is. -/
set_option linter.unusedVariables false
set_option linter.unusedSimpArgs false
namespace Go.Proofs.Ytegacggkdjgdiaa
open Go.RowKit

/-- is there something to write? -/
def qgo (l : List Vr) (t : List Tr) (i : Nat) : Bool := decide (readyV l i ≠ []) && decide (readyV l i ≠ lastS t i)
def qwN (S : Nat → Bk) (l : List Vr) (t : List Tr) (i : Nat) : Int := if qgo l t i && !(S i).b then ((readyV l i).length : Int) else 0
def qwE (S : Nat → Bk) (l : List Vr) (t : List Tr) (i : Nat) : Int := if qgo l t i && (S i).b then 10 else 0
def qwS (S : Nat → Bk) (l : List Vr) (t : List Tr) (i : Nat) : Nat → Bk := if qgo l t i && !(S i).b then upd S i ⟨(S i).s, (S i).v ++ [putS i false (readyV l i) l (S i).s], (S i).b⟩ else S
/-- the last Writes behind a Write -/
def QWrote (S : Nat → Bk) (l : List Vr) (t : List Tr) (i : Nat) (t' : List Tr) : Prop := if qgo l t i && !(S i).b then ∃ A3 c3, t' = ⟨i, readyV l i, A3, c3⟩ :: dropT t i else t' = t
theorem Qe.mono {w : World} {g n cc cc' : Nat} {S : Nat → Bk} {k : Int} {l : List Vr} {t : List Tr} {F : Nat → Prop} (h : Qe w g n S cc k l t F) (hc : cc ≤ cc') : Qe w g n S cc' k l t F := by
  obtain ⟨d, A, c, A2, c2, Fd, h, rfl⟩ := h
  refine ⟨d, A, c, A2, c2, Fd, ⟨h.head, ?_, h.row, h.tow⟩, rfl⟩
  obtain ⟨gb, cp, A, C, hd, e⟩ := h.disk
  exact ⟨gb, cp, A, C, ⟨hd.hd, hd.row, hd.vers, hd.ok, hd.n1, hd.n96, fun i hi => Nat.le_trans (hd.few i hi) hc, hd.apart⟩, e⟩
theorem qwrite_any {w : World} {g n cc : Nat} {S : Nat → Bk} {k : Int} {l : List Vr} {t : List Tr} {F : Nat → Prop} (h : Qe w g n S cc k l t F) (hl : l.length ≤ 1000) (hds : ∀ x ∈ l, x.ds.length ≤ 100000) (ht : t.length ≤ 1000) (hr : ∀ x ∈ l, x.p.right = true) {i : Nat} (hi : i < n) (hc : cc < 99999) :
    Calls Try.prog 78 #[.pointer (some ⟨g, 0, none⟩), .int .i64 (i : Int)] w fun e w' => e = .returned (.tuple #[.int .i64 (qwN S l t i), .int .i64 (qwE S l t i)]) ∧ Went w w' F (fun F' => ∃ t', QWrote S l t i t' ∧ Qe w' g n (qwS S l t i) (cc + 1) k l t' F') := by
  have stay : ∀ w', Below w.heap.size w w' → Qe w' g n S (cc + 1) k l t F ∧ Kept w w' F ∧ ∀ b, F b → F b ∨ w.heap.size ≤ b := fun w' hB => ⟨(h.fresh hB).mono (Nat.le_succ _), Kept.fresh hB, fun b q => .inl q⟩
  unfold qwN qwE qwS QWrote
  cases hg : qgo l t i with
  | false =>
    have hid : readyV l i = [] ∨ readyV l i = lastS t i := by
      unfold qgo at hg
      by_cases h1 : readyV l i = []
      · exact .inl h1
      · by_cases h2 : readyV l i = lastS t i
        · exact .inr h2
        · simp [h1, h2] at hg
    refine (qwrite_idle h hl hds ht hi hid).mono ?_
    rintro e w' ⟨rfl, hB⟩
    obtain ⟨a, b, c⟩ := stay w' hB
    refine ⟨by simp, F, ?_, b, c⟩
    simp only [Bool.false_and, Bool.false_eq_true, if_false]
    exact ⟨t, rfl, a⟩
  | true =>
    unfold qgo at hg
    rw [Bool.and_eq_true, decide_eq_true_iff, decide_eq_true_iff] at hg
    cases hb : (S i).b with
    | true =>
      refine (qwrite_bad h hl hds ht hr hi hg.1 hg.2 hb).mono ?_
      rintro e w' ⟨rfl, hB⟩
      obtain ⟨a, b, c⟩ := stay w' hB
      refine ⟨by simp, F, ?_, b, c⟩
      simp only [Bool.not_true, Bool.and_false, Bool.false_eq_true, if_false]
      exact ⟨t, rfl, a⟩
    | false =>
      refine (qwrite_ok h hl hds ht hr hi hg.1 hg.2 hb hc).mono ?_
      rintro e w' ⟨rfl, F', ⟨A3, c3, hq⟩, hk, hf⟩
      refine ⟨by simp, F', ?_, hk, hf⟩
      simp only [Bool.not_false, Bool.and_true, if_true]
      rw [hb] at hq
      exact ⟨_, ⟨A3, c3, rfl⟩, hq⟩
end Go.Proofs.Ytegacggkdjgdiaa

/- The document's engine: a round of Sync. -/
set_option linter.unusedVariables false
set_option linter.unusedSimpArgs false
namespace Go.Proofs.Ytegacggkdjgdiaa
open Go.RowKit

/-- Writes of the first j blocks, rising -/
inductive QRnd (l : List Vr) (S0 : Nat → Bk) (t0 : List Tr) : Nat → (Nat → Bk) → List Tr → Prop
  | zero : QRnd l S0 t0 0 S0 t0
  | succ {j : Nat} {S : Nat → Bk} {t t' : List Tr} (h : QRnd l S0 t0 j S t) (hw : QWrote S l t j t') : QRnd l S0 t0 (j + 1) (qwS S l t j) t'
theorem dropT_len (t : List Tr) (i : Nat) : (dropT t i).length ≤ t.length := by unfold dropT; exact List.length_filter_le _ _
theorem QWrote.len {S : Nat → Bk} {l : List Vr} {t t' : List Tr} {i : Nat} (h : QWrote S l t i t') : t'.length ≤ t.length + 1 := by
  unfold QWrote at h
  split at h
  · obtain ⟨A3, c3, rfl⟩ := h
    rw [List.length_cons]; have := dropT_len t i; omega
  · subst h; omega
theorem QWrote.sets {S : Nat → Bk} {l : List Vr} {t t' : List Tr} {i : Nat} (h : QWrote S l t i t') (hl : l.length ≤ 1000) (hs : ∀ x ∈ t, x.set.length ≤ 100000) : ∀ x ∈ t', x.set.length ≤ 100000 := by
  unfold QWrote at h
  split at h
  · obtain ⟨A3, c3, rfl⟩ := h
    intro x hx
    rcases List.mem_cons.1 hx with rfl | hx
    · show (readyV l i).length ≤ 100000
      rw [← readyK_all]; have := readyK_len l i l.length; omega
    · exact hs x (List.mem_filter.1 hx).1
  · subst h; exact hs
theorem QRnd.len {l : List Vr} {S0 S : Nat → Bk} {t0 t : List Tr} {j : Nat} (h : QRnd l S0 t0 j S t) : t.length ≤ t0.length + j := by
  induction h with
  | zero => omega
  | succ h hw ih => have := hw.len; omega
theorem QRnd.sets {l : List Vr} {S0 S : Nat → Bk} {t0 t : List Tr} {j : Nat} (h : QRnd l S0 t0 j S t) (hl : l.length ≤ 1000) (hs : ∀ x ∈ t0, x.set.length ≤ 100000) : ∀ x ∈ t, x.set.length ≤ 100000 := by
  induction h with
  | zero => exact hs
  | succ h hw ih => exact hw.sets hl ih
theorem Qe.parts {w : World} {g n cc : Nat} {S : Nat → Bk} {k : Int} {l : List Vr} {t : List Tr} {F : Nat → Prop} (h : Qe w g n S cc k l t F) : F g ∧ g < w.heap.size ∧ n ≤ 96 ∧ ∃ d A c, w.cell? ⟨g, 0, none⟩ = some (.pointer (some ⟨d, 0, none⟩)) ∧ w.cell? ⟨g, 1, none⟩ = some (.slice A l.length c) ∧ (Calls Try.prog 92 #[.pointer (some ⟨d, 0, none⟩)] w fun e w' => e = .returned (.int .i64 n) ∧ w = w') := by
  obtain ⟨d, A, c, A2, c2, Fd, h, rfl⟩ := h
  exact ⟨.inl rfl, h.head.lt, h.disk.size.2.1, d, A, c, h.head.c0, h.head.c1, rsize h.disk⟩
set_option maxRecDepth 100000 in
set_option maxHeartbeats 2000000 in
theorem qround {w : World} {g n cc : Nat} {S : Nat → Bk} {k : Int} {l : List Vr} {t : List Tr} {F : Nat → Prop} (h : Qe w g n S cc k l t F) (hl : l.length ≤ 1000) (hds : ∀ x ∈ l, x.ds.length ≤ 100000) (ht : t.length ≤ 500) (hs : ∀ x ∈ t, x.set.length ≤ 100000) (hr : ∀ x ∈ l, x.p.right = true) (hc : cc ≤ 90000) :
    Calls Try.prog 99 #[.pointer (some ⟨g, 0, none⟩)] w fun e w' => ∃ S' t', QRnd l S t n S' t' ∧ e = .returned (.bool (decide ((keepF l t').length < l.length))) ∧ Went w w' F (Qe w' g n (fun j => (S' j).flushed) (cc + n) k (keepF l t') []) := by
  have HQ := Lib.hid h
  obtain ⟨hFg, hgl, hn96, d, A, c, h0, h1, _⟩ := h.parts
  have Hds := Lib.hid hds
  have Hs := Lib.hid hs
  have Hr := Lib.hid hr
  clear h hds hs hr
  go_enter Try.func99, Try.ntmps99
  go_wp2
  go_loopw [4] (fun q wr => ∃ (j : Nat) (S' : Nat → Bk) (t' : List Tr) (F' : Nat → Prop), j ≤ n ∧ q = .int .i64 j ∧ Hid (QRnd l S t j S' t') ∧ Hid (Qe wr g n S' (cc + j) k l t' F') ∧ Hid (Kept w wr F) ∧ Hid (∀ b, F' b → F b ∨ w.heap.size ≤ b)) (fun q _ => n - (intOf q).toNat)
  case atStart => exact ⟨0, S, t, F, Nat.zero_le _, rfl, .zero, HQ.out, Kept.refl _ _, fun b q => .inl q⟩
  case round =>
    obtain ⟨j, S', t', F', hj, rfl, hrn, hq, hk, hf⟩ := hrel
    rename World => wr
    obtain ⟨_, hgr, _, dr, Ar, cr, h0r, h1r, hsz⟩ := hq.out.parts
    have HSz := Lib.hid hsz
    have htl := hrn.out.len
    clear hsz
    by_cases hlt : j < n
    · have hlti : (j : Int) < (n : Int) := by omega
      have HW := Lib.hid (qwrite_any hq.out hl Hds.out (by omega) Hr.out hlt (by omega))
      generalize hN : qwN S' l t' j = N at HW
      generalize hE : qwE S' l t' j = E at HW
      clear hN hE
      go_wp2_with (first
        | (go_at_call 92; refine HSz.out.mono ?_; rintro e w' ⟨rfl, rfl⟩)
        | (go_at_call 78; refine HW.out.mono ?_; rintro e wx ⟨rfl, Fx, ⟨tx, hwx, hqx⟩, hkx, hfx⟩; have HWx := Lib.hid hwx; have HQx := Lib.hid hqx; have HKx := Lib.hid hkx; have HFx := Lib.hid hfx; clear hwx hqx hkx hfx))
      go_roundw
      case rel => exact ⟨j + 1, _, tx, Fx, by omega, by go_num, .succ hrn.out HWx.out, HQx.out, hk.out.trans HKx.out hf.out, fun b q => (HFx.out b q).elim (hf.out b) (fun q => .inr (Nat.le_trans hk.out.size q))⟩
      case measure => simp [intOf]; omega
    · obtain rfl : j = n := by omega
      have hlti : ¬ (j : Int) < (j : Int) := by omega
      have HFl := Lib.hid (qflush hq.out (by omega) hl (by omega) (hrn.out.sets hl Hs.out))
      obtain ⟨l2, hl2⟩ : ∃ l2, l2 = keepF l t' := ⟨_, rfl⟩
      rw [← hl2] at HFl
      have Hl2 := Lib.hid hl2
      clear hl2
      go_wp2_with (first
        | (go_at_call 92; refine HSz.out.mono ?_; rintro e w' ⟨rfl, rfl⟩)
        | (go_at_call 79; refine HFl.out.mono ?_; rintro e wx ⟨rfl, Fx, hqx, hkx, hfx⟩; obtain ⟨_, hgx, _, dx, Ax, cx, h0x, h1x, _⟩ := hqx.parts; have HQx := Lib.hid hqx; have HKx := Lib.hid hkx; have HFx := Lib.hid hfx; clear hqx hkx hfx))
      go_ret
      refine ⟨S', t', hrn.out, ?_, Fx, by rw [← Hl2.out]; exact HQx.out, hk.out.trans HKx.out hf.out, fun b q => (HFx.out b q).elim (hf.out b) (fun q => .inr (Nat.le_trans hk.out.size q))⟩
      rw [← Hl2.out]
      simp
end Go.Proofs.Ytegacggkdjgdiaa

/- The document's engine: Sync. -/
set_option linter.unusedVariables false
set_option linter.unusedSimpArgs false
namespace Go.Proofs.Ytegacggkdjgdiaa
open Go.RowKit

/-- what Sync makes, and its error -/
inductive QSyn (n : Nat) : (Nat → Bk) → List Vr → List Tr → (Nat → Bk) → List Vr → List Tr → Int → Prop
  | done {S : Nat → Bk} {t : List Tr} : QSyn n S [] t S [] t 0
  | stuck {S S' : Nat → Bk} {l : List Vr} {t t' : List Tr} (hl : l ≠ []) (h : QRnd l S t n S' t') (hn : ¬ (keepF l t').length < l.length) : QSyn n S l t (fun j => (S' j).flushed) (keepF l t') [] 10
  | more {S S' S2 : Nat → Bk} {l l2 : List Vr} {t t' t2 : List Tr} {e : Int} (hl : l ≠ []) (h : QRnd l S t n S' t') (hn : (keepF l t').length < l.length) (k : QSyn n (fun j => (S' j).flushed) (keepF l t') [] S2 l2 t2 e) : QSyn n S l t S2 l2 t2 e
theorem keepF_sub {l : List Vr} {t : List Tr} {x : Vr} (h : x ∈ keepF l t) : x ∈ l := (List.mem_filter.1 h).1
set_option maxRecDepth 100000 in
set_option maxHeartbeats 2000000 in
theorem qsync {w : World} {g n cc : Nat} {S : Nat → Bk} {k : Int} {l : List Vr} {t : List Tr} {F : Nat → Prop} (h : Qe w g n S cc k l t F) (hl : l.length ≤ 200) (hds : ∀ x ∈ l, x.ds.length ≤ 100000) (ht : t.length ≤ 500) (hs : ∀ x ∈ t, x.set.length ≤ 100000) (hr : ∀ x ∈ l, x.p.right = true) (hc : cc ≤ 70000) (hn5 : n ≤ 5) :
    Calls Try.prog 80 #[.pointer (some ⟨g, 0, none⟩)] w fun e w' => ∃ S' l' t' r, e = .returned (.int .i64 r) ∧ QSyn n S l t S' l' t' r ∧ Went w w' F (fun F' => ∃ cc', cc' ≤ cc + 1200 ∧ Qe w' g n S' cc' k l' t' F') := by
  have HQ := Lib.hid h
  obtain ⟨hFg, hgl, hn96, d, A, c, h0, h1, _⟩ := h.parts
  have Hds := Lib.hid hds
  have Hs := Lib.hid hs
  have Hr := Lib.hid hr
  clear h hds hs hr h0 h1
  go_enter Try.func80, Try.ntmps80
  go_wp2
  go_loopg [2] l.length (fun m _ wr => ∃ (S1 : Nat → Bk) (l1 : List Vr) (t1 : List Tr) (c1 : Nat) (F1 : Nat → Prop), l1.length ≤ m ∧ m ≤ l.length ∧ t1.length ≤ 500 ∧ Hid (∀ x ∈ l1, x ∈ l) ∧ Hid (∀ x ∈ t1, x.set.length ≤ 100000) ∧ Hid (Qe wr g n S1 c1 k l1 t1 F1) ∧ c1 + 6 * m ≤ cc + 6 * l.length ∧ Hid (∀ S' l' t' r, QSyn n S1 l1 t1 S' l' t' r → QSyn n S l t S' l' t' r) ∧ Hid (Kept w wr F) ∧ Hid (∀ b, F1 b → F b ∨ w.heap.size ≤ b))
  case atStart => exact ⟨S, l, t, cc, F, Nat.le_refl _, Nat.le_refl _, ht, fun _ q => q, Hs.out, HQ.out, Nat.le_refl _, fun _ _ _ _ q => q, Kept.refl _ _, fun b q => .inl q⟩
  case round =>
    obtain ⟨S1, l1, t1, c1, F1, hlm, hml, ht1, hsub, hs1, hQ, hcc, hsy, hK, hF⟩ := hrel
    rename World => wr
    obtain ⟨_, hgr, _, dr, Ar, cr, h0r, h1r, _⟩ := hQ.out.parts
    by_cases hnil : l1 = []
    · subst hnil
      have h0 : ¬ (0 : Int) < ((([] : List Vr).length : Nat) : Int) := by simp
      go_wp2
      go_ret
      exact ⟨S1, [], t1, 0, rfl, hsy.out _ _ _ _ QSyn.done, F1, ⟨c1, by omega, hQ.out⟩, hK.out, hF.out⟩
    · have hpos : 0 < l1.length := List.length_pos_iff.2 hnil
      have hposi : (0 : Int) < (l1.length : Int) := by omega
      have Hnil := Lib.hid hnil
      have HRd := Lib.hid (qround hQ.out (by omega) (fun x hx => Hds.out x (hsub.out x hx)) ht1 hs1.out (fun x hx => Hr.out x (hsub.out x hx)) (by omega))
      obtain ⟨ln, hln⟩ : ∃ ln, ln = l1.length := ⟨_, rfl⟩
      have Hln := Lib.hid hln
      rw [← hln] at h1r hposi hlm HRd
      clear hnil hpos hln
      go_wp2_with (go_at_call 99; refine HRd.out.mono ?_; rintro e wx ⟨S2, t2, hrd, rfl, F2, hq2, hk2, hf2⟩; have HRn := Lib.hid hrd; have HQ2 := Lib.hid hq2; have HK2 := Lib.hid hk2; have HF2 := Lib.hid hf2; clear hrd hq2 hk2 hf2)
      all_goals rename_i hcond
      all_goals (first
        | (go_ret
           exact ⟨_, _, _, 10, rfl, hsy.out _ _ _ _ (QSyn.stuck Hnil.out HRn.out (by rw [← Hln.out]; simpa using hcond)), F2, ⟨c1 + n, by omega, HQ2.out⟩, hK.out.trans HK2.out hF.out, fun b q => (HF2.out b q).elim (hF.out b) (fun q => .inr (Nat.le_trans hK.out.size q))⟩)
        | (have hlr : (keepF l1 t2).length < ln := (by simpa using hcond)
           go_roundg (keepF l1 t2).length
           case rel => exact ⟨_, keepF l1 t2, [], c1 + n, F2, Nat.le_refl _, by omega, Nat.zero_le _, fun x hx => hsub.out x (keepF_sub hx), (fun x hx => by cases hx), HQ2.out, by omega, fun S' l' t' r q => hsy.out _ _ _ _ (QSyn.more Hnil.out HRn.out (by rw [← Hln.out]; exact hlr) q), hK.out.trans HK2.out hF.out, fun b q => (HF2.out b q).elim (hF.out b) (fun q => .inr (Nat.le_trans hK.out.size q))⟩
           case measure => omega))
end Go.Proofs.Ytegacggkdjgdiaa

/- The program's engine and the document's, side by side: those that wait are the same, and so is what is ready. -/
set_option linter.unusedVariables false
set_option linter.unusedSimpArgs false
namespace Go.Proofs.Ytegacggkdjgdiaa
open Go.RowKit

/-- those that wait, in both; l0: all that wait -/
inductive Tw (l0 : List Wr) : List Wr → List Vr → Prop
  | nil : Tw l0 [] []
  | cons {x : Wr} {y : Vr} {r : List Wr} {rv : List Vr} (hn : x.num = y.num) (hp : x.p = y.p) (hd : ∀ d, hasN l0 d = true → (d ∈ x.ah ↔ d ∈ y.ds)) (h : Tw l0 r rv) : Tw l0 (x :: r) (y :: rv)
theorem Tw.len {l0 l : List Wr} {lv : List Vr} (h : Tw l0 l lv) : lv.length = l.length := by
  induction h with
  | nil => rfl
  | cons hn hp hd h ih => simp [ih]
theorem Tw.has {l0 l : List Wr} {lv : List Vr} (h : Tw l0 l lv) (n : Int) : hasV lv n = hasN l n := by
  induction h with
  | nil => rfl
  | cons hn hp hd h ih => unfold hasV hasN at *; simp only [List.any_cons]; rw [ih, hn]
theorem Tw.nums {l0 l : List Wr} {lv : List Vr} (h : Tw l0 l lv) : lv.map Vr.num = numsL l := by
  induction h with
  | nil => rfl
  | cons hn hp hd h ih => unfold numsL at *; simp only [List.map_cons]; rw [ih, hn]
theorem okIn_okD {l0 : List Wr} {LV : List Vr} (hL : ∀ n, hasV LV n = hasN l0 n) {x : Wr} {y : Vr} (hd : ∀ d, hasN l0 d = true → (d ∈ x.ah ↔ d ∈ y.ds)) (kept : List Wr) : okIn l0 kept x = okD LV (numsL kept) y.ds := by
  have hk : ∀ d, hasN kept d = decide (d ∈ numsL kept) := fun d => (has_nums kept d).symm
  unfold okIn okD
  rw [Bool.eq_iff_iff, List.all_eq_true, List.all_eq_true]
  constructor
  · intro h d hdd
    rw [hL]
    cases hw : hasN l0 d with
    | false => rfl
    | true =>
      have := h d ((hd d hw).2 hdd)
      rw [hw, hk] at this
      simpa using this
  · intro h d hdd
    cases hw : hasN l0 d with
    | false => rfl
    | true =>
      have := h d ((hd d hw).1 hdd)
      rw [hL, hw] at this
      rw [hk]
      simpa using this
theorem Tw.keep {l0 : List Wr} {LV : List Vr} (hL : ∀ n, hasV LV n = hasN l0 n) {r : List Wr} {rv : List Vr} (h : Tw l0 r rv) (b : Int) : ∀ kept : List Wr, numsL (keepL l0 kept (onL r b)) = rv.foldl (stepV LV b) (numsL kept) := by
  induction h with
  | nil => intro kept; rfl
  | @cons x y r rv hn hp hd h ih =>
    intro kept
    rw [List.foldl_cons]
    have hok := okIn_okD hL hd kept
    by_cases e : x.p.b = b
    · have e1 : onL (x :: r) b = x :: onL r b := by unfold onL; rw [List.filter_cons_of_pos (by simpa using e)]
      rw [e1]
      unfold keepL
      rw [ih]
      congr 1
      unfold stepV
      rw [← hp, decide_eq_true e, Bool.true_and, ← hok, ← hn]
      split <;> simp [numsL]
    · have e1 : onL (x :: r) b = onL r b := by unfold onL; rw [List.filter_cons_of_neg (by simpa using e)]
      rw [e1, ih]
      congr 1
      unfold stepV
      rw [← hp, decide_eq_false e, Bool.false_and]
      rfl
/-- what is ready is the same -/
theorem Tw.ready {l : List Wr} {lv : List Vr} (h : Tw l l lv) (b : Int) : readyV lv b = numsL (readyL l b) := by
  have := Tw.keep (LV := lv) (fun n => h.has n) h b []
  unfold readyV readyL
  rw [this]; rfl
/-- bytes of a block with some that wait are the same -/
theorem Tw.put {l0 r : List Wr} {rv : List Vr} (h : Tw l0 r rv) (i : Int) (set : List Int) : ∀ s : List Int, putS i false set rv s = putL s (r.filter fun x => decide (x.p.b = i) && decide (x.num ∈ set)) := by
  induction h with
  | nil => intro s; rfl
  | @cons x y r rv hn hp hd h ih =>
    intro s
    unfold putS
    rw [List.foldl_cons]
    have e : selV i false set y = (decide (x.p.b = i) && decide (x.num ∈ set)) := by unfold selV; rw [← hp, ← hn]; rfl
    rw [e]
    cases hb : (decide (x.p.b = i) && decide (x.num ∈ set)) with
    | true =>
      simp only [List.filter_cons, hb, if_true]
      rw [← hp]
      exact ih _
    | false =>
      simp only [List.filter_cons, hb, Bool.false_eq_true, if_false]
      exact ih _
/-- so is what a Flush leaves waiting, when the marks are the numbers of the last Writes -/
theorem Tw.left {l0 r : List Wr} {rv : List Vr} (h : Tw l0 r rv) {t : List Tr} (hw : ∀ x ∈ r, x.wr = inT t x.num) : Tw l0 (leftL r) (keepF rv t) := by
  induction h with
  | nil => exact .nil
  | @cons x y r rv hn hp hd h ih =>
    have hx := hw x List.mem_cons_self
    have ih := ih (fun z hz => hw z (List.mem_cons_of_mem _ hz))
    unfold leftL keepF at *
    rw [hn] at hx
    cases hb : x.wr with
    | true =>
      rw [List.filter_cons_of_neg (by simp [hb]), List.filter_cons_of_neg (by rw [← hx, hb]; decide)]
      exact ih
    | false =>
      rw [List.filter_cons_of_pos (by simp [hb]), List.filter_cons_of_pos (by rw [← hx, hb]; rfl)]
      exact .cons hn hp hd ih
end Go.Proofs.Ytegacggkdjgdiaa

/- The two engines side by side: marks, and fewer that wait. -/
set_option linter.unusedVariables false
set_option linter.unusedSimpArgs false
namespace Go.Proofs.Ytegacggkdjgdiaa
open Go.RowKit

theorem Tw.sub {l0 l1 r : List Wr} {rv : List Vr} (h : Tw l0 r rv) (hs : ∀ d, hasN l1 d = true → hasN l0 d = true) : Tw l1 r rv := by
  induction h with
  | nil => exact .nil
  | cons hn hp hd h ih => exact .cons hn hp (fun d q => hd d (hs d q)) ih
/-- marks do not matter -/
theorem Tw.map {l0 r : List Wr} {rv : List Vr} (h : Tw l0 r rv) (f : Wr → Wr) (h1 : ∀ x, (f x).num = x.num ∧ (f x).p = x.p ∧ (f x).ah = x.ah) : Tw l0 (r.map f) rv := by
  induction h with
  | nil => exact .nil
  | @cons x y r rv hn hp hd h ih =>
    obtain ⟨e1, e2, e3⟩ := h1 x
    exact .cons (by rw [e1]; exact hn) (by rw [e2]; exact hp) (fun d q => by rw [e3]; exact hd d q) ih
theorem Tw.mark {l : List Wr} {lv : List Vr} (h : Tw l l lv) (s : List Wr) : Tw (markL l s) (markL l s) lv := by
  have h1 : Tw l (markL l s) lv := by
    unfold markL
    exact h.map _ (fun x => by split <;> exact ⟨rfl, rfl, rfl⟩)
  exact h1.sub (fun d q => by rw [← hasN_markL l s d]; exact q)
theorem Tw.wr {l : List Wr} {lv : List Vr} (h : Tw l l lv) (S : Nat → Bk) (i : Nat) : Tw (wrL S l i) (wrL S l i) lv := by
  unfold wrL
  split
  · exact h.mark _
  · exact h
theorem Tw.flush {l : List Wr} {lv : List Vr} (h : Tw l l lv) {t : List Tr} (hw : ∀ x ∈ l, x.wr = inT t x.num) : Tw (leftL l) (leftL l) (keepF lv t) :=
  (h.left hw).sub (fun d q => hasN_leftL q)
end Go.Proofs.Ytegacggkdjgdiaa

/- The tie of both engines: marks and last Writes, what is ready, what a Write, a Flush and a Sync leave. -/
set_option linter.unusedVariables false
set_option linter.unusedSimpArgs false
namespace Go.Proofs.Ytegacggkdjgdiaa
open Go.RowKit

theorem filter_sub {r m : List Wr} (h : r.Sublist m) (ha : Asc m) (p : Wr → Bool) (hp : ∀ x ∈ m, p x = true → x ∈ r) : r.filter p = m.filter p := by
  induction h with
  | slnil => rfl
  | @cons r m a h ih =>
    obtain ⟨h1, h2⟩ := List.pairwise_cons.1 ha
    have hpa : p a = false := by
      cases e : p a with
      | false => rfl
      | true =>
        have := h1 a (h.subset (hp a List.mem_cons_self e))
        omega
    rw [List.filter_cons_of_neg (by simp [hpa])]
    exact ih h2 (fun x hx e => hp x (List.mem_cons_of_mem _ hx) e)
  | @cons_cons r m a h ih =>
    obtain ⟨h1, h2⟩ := List.pairwise_cons.1 ha
    have ih := ih h2 (fun x hx e => by
      rcases List.mem_cons.1 (hp x (List.mem_cons_of_mem _ hx) e) with q | q
      · subst q; have := h1 x hx; omega
      · exact q)
    simp only [List.filter_cons, ih]
theorem filter_all {r : List Wr} {p : Wr → Bool} (h : ∀ x ∈ r, p x = true) : r.filter p = r := List.filter_eq_self.2 h
theorem keepL_append (l : List Wr) : ∀ (a b kept : List Wr), keepL l kept (a ++ b) = keepL l (keepL l kept a) b
  | [], b, kept => rfl
  | x :: a, b, kept => by
    exact keepL_append l a b _
theorem readyL_subL (l : List Wr) (b : Int) : (readyL l b).Sublist l := (readyL_sub l b).trans (onL_sub l b)
theorem readyL_on {l : List Wr} {b : Int} {x : Wr} (h : x ∈ readyL l b) : x.p.b = b := by
  have := (List.mem_filter.1 ((readyL_sub l b).subset h)).2
  simpa using this
/-- both engines: what waits, what was written -/
structure Tie (l : List Wr) (lv : List Vr) (t : List Tr) : Prop where
  tw : Tw l l lv
  asc : Asc l
  dep : ∀ x ∈ l, ∀ d ∈ x.ah, d < x.num
  depv : ∀ y ∈ lv, ∀ d ∈ y.ds, d < y.num
  blk : ∀ x ∈ l, ∃ j : Nat, x.p.b = j
  cl : ∀ x ∈ l, x.wr = true → ∀ z ∈ l, z.num ∈ x.ah → z.wr = true ∧ z.p.b = x.p.b
  last : ∀ i : Nat, lastS t (i : Int) = numsL ((onL l i).filter Wr.wr)
  dist : t.Pairwise fun a b => a.b ≠ b.b
  tb : ∀ y ∈ t, ∃ j : Nat, y.b = j
namespace Tie
variable {l : List Wr} {lv : List Vr} {t : List Tr}
/-- what was written is ready -/
theorem wr_ready (h : Tie l lv t) {x : Wr} (hx : x ∈ l) (hw : x.wr = true) : x ∈ readyL l x.p.b := by
  obtain ⟨b, hb⟩ : ∃ b, b = x.p.b := ⟨_, rfl⟩
  rw [← hb]
  obtain ⟨m, hm⟩ : ∃ m, m = onL l b := ⟨_, rfl⟩
  have hml : m.Sublist l := by rw [hm]; exact onL_sub l b
  have hma : Asc m := h.asc.sub hml
  have key : ∀ k, k ≤ m.length → ∀ j, j < k → (wn m j).wr = true → wn m j ∈ keepL l [] (m.take k) := by
    intro k
    induction k with
    | zero => intro _ j hj; omega
    | succ k ih =>
      intro hk j hj hjw
      have ih := ih (by omega)
      rw [take_wn (by omega), keepL_append]
      obtain ⟨s, _, hs⟩ := keepL_sub l [wn m k] (keepL l [] (m.take k))
      by_cases e : j < k
      · rw [hs]; exact List.mem_append_left _ (ih j e hjw)
      · obtain rfl : j = k := by omega
        have hok : okIn l (keepL l [] (m.take j)) (wn m j) = true := by
          unfold okIn
          rw [List.all_eq_true]
          intro d hd
          cases hn : hasN l d with
          | false => rfl
          | true =>
            obtain ⟨z, hz, rfl⟩ := hasN_iff.1 hn
            have hmj := wn_mem (show j < m.length by omega)
            obtain ⟨h1, h2⟩ := h.cl _ (hml.subset hmj) hjw z hz hd
            have hlt := h.dep _ (hml.subset hmj) _ hd
            have hon : wn m j ∈ onL l b := by rw [← hm]; exact hmj
            have hzm : z ∈ m := by
              rw [hm]
              refine List.mem_filter.2 ⟨hz, ?_⟩
              rw [h2]; exact (List.mem_filter.1 hon).2
            obtain ⟨q, hq, hqe⟩ := List.mem_iff_getElem.1 hzm
            rw [← wn_lt hq] at hqe
            have hqj : q < j := by
              rcases Nat.lt_or_ge q j with h0 | h0
              · exact h0
              · exfalso
                rcases Nat.lt_or_ge j q with h3 | h3
                · have := hma.lt h3 hq; rw [hqe] at this; omega
                · obtain rfl : q = j := by omega
                  rw [hqe] at hlt; omega
            have := ih q hqj (by rw [hqe]; exact h1)
            rw [hqe] at this
            simp only [Bool.not_true, Bool.false_or]
            exact hasN_iff.2 ⟨z, this, rfl⟩
        unfold keepL
        rw [if_pos hok]
        unfold keepL
        exact List.mem_append_right _ (by simp)
  have hxm : x ∈ m := by rw [hm]; exact List.mem_filter.2 ⟨hx, by simp [hb]⟩
  obtain ⟨q, hq, hqe⟩ := List.mem_iff_getElem.1 hxm
  rw [← wn_lt hq] at hqe
  have := key m.length (Nat.le_refl _) q hq (by rw [hqe]; exact hw)
  rw [hqe, List.take_length] at this
  unfold readyL
  rw [← hm]; exact this
theorem mem_ready (h : Tie l lv t) {b : Int} {x : Wr} (hx : x ∈ l) (hn : hasN (readyL l b) x.num = true) : x ∈ readyL l b := by
  obtain ⟨z, hz, e⟩ := hasN_iff.1 hn
  have := asc_uniq h.asc ((readyL_subL l b).subset hz) hx e
  subst this; exact hz
theorem last_ready (h : Tie l lv t) (i : Nat) : lastS t (i : Int) = numsL ((readyL l i).filter Wr.wr) := by
  rw [h.last i, filter_sub (readyL_sub l i) (h.asc.sub (onL_sub l i)) Wr.wr]
  intro x hx hw
  obtain ⟨h1, h2⟩ := List.mem_filter.1 hx
  have := h.wr_ready h1 hw
  rwa [show x.p.b = (i : Int) by simpa using h2] at this
theorem ready_eq (h : Tie l lv t) (i : Nat) : readyV lv i = numsL (readyL l i) := h.tw.ready i
theorem act (h : Tie l lv t) (i : Nat) : qgo lv t i = wact l i := by
  unfold qgo wact
  rw [h.last_ready i, h.ready_eq i]
  generalize readyL l i = R
  cases hu : R.any fun x => !x.wr with
  | false =>
    rw [List.any_eq_false] at hu
    rw [filter_all (fun x hx => by have := hu x hx; simpa using this)]
    simp
  | true =>
    obtain ⟨x, hx, hw⟩ := List.any_eq_true.1 hu
    have h1 : numsL R ≠ [] := by
      intro e
      have : R = [] := by simpa [numsL] using e
      subst this; cases hx
    have h2 : numsL R ≠ numsL (R.filter Wr.wr) := by
      intro e
      have e2 := congrArg List.length e
      simp only [numsL, List.length_map] at e2
      have e3 : R.filter Wr.wr = R := List.Sublist.eq_of_length List.filter_sublist e2.symm
      have := List.filter_eq_self.1 e3 x hx
      rw [this] at hw; cases hw
    simp [h1, h2]
theorem bytes (h : Tie l lv t) (i : Nat) (s : List Int) : putS i false (readyV lv i) lv s = putL s (readyL l i) := by
  rw [h.tw.put i (readyV lv i) s, h.ready_eq i]
  congr 1
  have e := filter_sub (readyL_subL l i) h.asc (fun x => decide (x.p.b = (i : Int)) && decide (x.num ∈ numsL (readyL l i))) (fun x hx hp => by
    rw [Bool.and_eq_true, has_nums] at hp
    exact h.mem_ready hx hp.2)
  rw [← e]
  apply filter_all
  intro x hx
  rw [Bool.and_eq_true, has_nums]
  exact ⟨decide_eq_true (readyL_on hx), hasN_iff.2 ⟨x, hx, rfl⟩⟩
theorem wN (h : Tie l lv t) (S : Nat → Bk) (i : Nat) : qwN S lv t i = wrN S l i := by
  unfold qwN wrN wgo
  rw [h.act i, h.ready_eq i]
  simp [numsL]
theorem wE (h : Tie l lv t) (S : Nat → Bk) (i : Nat) : qwE S lv t i = wrE S l i := by
  unfold qwE wrE
  rw [h.act i]
theorem wS (h : Tie l lv t) (S : Nat → Bk) (i : Nat) : qwS S lv t i = wrS S l i := by
  unfold qwS wrS wgo
  rw [h.act i, h.bytes i]
theorem nums_filter (l R : List Wr) (j : Int) : numsL ((onL (markL l R) j).filter Wr.wr) = numsL (l.filter fun x => (x.p.b == j) && (hasN R x.num || x.wr)) := by
  unfold onL markL
  rw [List.filter_filter, List.filter_map]
  unfold numsL
  rw [List.map_map]
  have e : (l.filter ((fun a : Wr => a.wr && (a.p.b == j)) ∘ fun x => if hasN R x.num then x.done else x)) = l.filter fun x => (x.p.b == j) && (hasN R x.num || x.wr) := by
    apply List.filter_congr
    intro x _
    simp only [Function.comp]
    cases hasN R x.num <;> simp [Wr.done, Bool.and_comm]
  rw [e]
  apply List.map_congr_left
  intro x _
  simp only [Function.comp]
  split <;> rfl
theorem lastT_drop {t : List Tr} {i : Nat} {j : Int} (h : j ≠ i) : lastT (dropT t i) j = lastT t j := by
  unfold dropT
  induction t with
  | nil => rfl
  | cons y r ih =>
    by_cases e : y.b = (i : Int)
    · rw [List.filter_cons_of_neg (by simp [e]), ih]
      conv => rhs; unfold lastT
      rw [if_neg (by omega)]
    · rw [List.filter_cons_of_pos (by simp [e])]
      unfold lastT
      rw [ih]
theorem mark (h : Tie l lv t) (i : Nat) (A3 : Option Addr) (c3 : Nat) : Tie (markL l (readyL l i)) lv (⟨i, readyV lv i, A3, c3⟩ :: dropT t i) := by
  refine ⟨h.tw.mark _, asc_markL _ h.asc, ?_, h.depv, ?_, ?_, ?_, ?_, ?_⟩
  · intro x hx d hd
    obtain ⟨y, hy, h1, h2, h3, _⟩ := mem_markL hx
    rw [h1]; rw [h3] at hd; exact h.dep y hy d hd
  · intro x hx
    obtain ⟨y, hy, h1, h2, h3, _⟩ := mem_markL hx
    rw [h2]; exact h.blk y hy
  · intro x' hx' hw z' hz' hd
    obtain ⟨x, hx, rfl⟩ := List.mem_map.1 hx'
    obtain ⟨z, hz, rfl⟩ := List.mem_map.1 hz'
    have en : ∀ y : Wr, (if hasN (readyL l i) y.num then y.done else y).num = y.num := fun y => by split <;> rfl
    have ep : ∀ y : Wr, (if hasN (readyL l i) y.num then y.done else y).p = y.p := fun y => by split <;> rfl
    have ea : ∀ y : Wr, (if hasN (readyL l i) y.num then y.done else y).ah = y.ah := fun y => by split <;> rfl
    rw [en, ea] at hd
    rw [ep, ep]
    by_cases hr : hasN (readyL l i) x.num = true
    · have hxr := h.mem_ready hx hr
      have hzr := ready_ok hxr hd (hasN_iff.2 ⟨z, hz, rfl⟩)
      rw [if_pos hzr]
      exact ⟨rfl, by rw [readyL_on hxr, readyL_on (h.mem_ready hz hzr)]⟩
    · rw [if_neg hr] at hw
      obtain ⟨h1, h2⟩ := h.cl x hx hw z hz hd
      refine ⟨?_, h2⟩
      split
      · rfl
      · exact h1
  · intro j
    rw [nums_filter]
    by_cases e : j = i
    · subst e
      have e1 : lastS (⟨(j : Int), readyV lv j, A3, c3⟩ :: dropT t j) (j : Int) = readyV lv j := by
        unfold lastS lastT; simp
      rw [e1, h.ready_eq j]
      have e2 := filter_sub (readyL_subL l j) h.asc (fun x => (x.p.b == (j : Int)) && (hasN (readyL l j) x.num || x.wr)) (fun x hx hp => by
        rw [Bool.and_eq_true, Bool.or_eq_true] at hp
        rcases hp.2 with q | q
        · exact h.mem_ready hx q
        · have := h.wr_ready hx q
          rwa [show x.p.b = (j : Int) by simpa using hp.1] at this)
      rw [← e2, filter_all]
      intro x hx
      rw [Bool.and_eq_true]
      exact ⟨by simp [readyL_on hx], by rw [hasN_iff.2 ⟨x, hx, rfl⟩]; rfl⟩
    · have e1 : lastS (⟨(i : Int), readyV lv i, A3, c3⟩ :: dropT t i) (j : Int) = lastS t j := by
        unfold lastS
        conv => lhs; unfold lastT
        rw [if_neg (by simp; omega), lastT_drop (by omega)]
      rw [e1, h.last j]
      unfold onL
      rw [List.filter_filter]
      congr 1
      apply List.filter_congr
      intro x hx
      cases hb : (x.p.b == (j : Int)) with
      | false => simp
      | true =>
        have : hasN (readyL l i) x.num = false := by
          cases hr : hasN (readyL l i) x.num with
          | false => rfl
          | true =>
            have h1 := readyL_on (h.mem_ready hx hr)
            have h2 : x.p.b = (j : Int) := by simpa using hb
            omega
        rw [this]; simp
  · refine List.pairwise_cons.2 ⟨fun y hy => ?_, List.Pairwise.sublist List.filter_sublist h.dist⟩
    have := (List.mem_filter.1 hy).2
    have : y.b ≠ (i : Int) := of_decide_eq_true this
    exact fun q => this q.symm
  · intro y hy
    rcases List.mem_cons.1 hy with rfl | hy
    · exact ⟨i, rfl⟩
    · exact h.tb y (List.mem_filter.1 hy).1
theorem write (h : Tie l lv t) (S : Nat → Bk) (i : Nat) {t' : List Tr} (hq : QWrote S lv t i t') : Tie (wrL S l i) lv t' := by
  unfold QWrote at hq
  unfold wrL wgo
  rw [h.act i] at hq
  by_cases e : (wact l i && !(S i).b) = true
  · rw [if_pos e] at hq ⊢
    obtain ⟨A3, c3, rfl⟩ := hq
    exact h.mark i A3 c3
  · rw [if_neg e] at hq ⊢
    subst hq; exact h
theorem lastT_self {t : List Tr} (h : t.Pairwise fun a b => a.b ≠ b.b) {y : Tr} (hy : y ∈ t) : lastT t y.b = some y := by
  induction t with
  | nil => cases hy
  | cons z r ih =>
    obtain ⟨h1, h2⟩ := List.pairwise_cons.1 h
    rcases List.mem_cons.1 hy with rfl | hy
    · unfold lastT; rw [if_pos rfl]
    · unfold lastT; rw [if_neg (h1 y hy)]; exact ih h2 hy
theorem marks (h : Tie l lv t) {x : Wr} (hx : x ∈ l) : x.wr = inT t x.num := by
  rw [Bool.eq_iff_iff]
  constructor
  · intro hw
    obtain ⟨i, hi⟩ := h.blk x hx
    have hm : x.num ∈ lastS t (i : Int) := by
      rw [h.last i]
      exact List.mem_map.2 ⟨x, List.mem_filter.2 ⟨List.mem_filter.2 ⟨hx, by simp [hi]⟩, hw⟩, rfl⟩
    unfold lastS at hm
    cases e : lastT t (i : Int) with
    | none => rw [e] at hm; cases hm
    | some y =>
      rw [e] at hm
      unfold inT
      rw [List.any_eq_true]
      exact ⟨y, (lastT_mem e).1, by simpa using hm⟩
  · intro hi
    unfold inT at hi
    rw [List.any_eq_true] at hi
    obtain ⟨y, hy, hm⟩ := hi
    have hm : x.num ∈ y.set := of_decide_eq_true hm
    obtain ⟨j, hj⟩ := h.tb y hy
    have e := h.last j
    unfold lastS at e
    have e2 := lastT_self h.dist hy
    rw [hj] at e2
    rw [e2] at e
    have e : y.set = numsL ((onL l (j : Int)).filter Wr.wr) := e
    rw [e] at hm
    obtain ⟨z, hz, hn⟩ := List.mem_map.1 hm
    obtain ⟨hz1, hz2⟩ := List.mem_filter.1 hz
    have := asc_uniq h.asc ((onL_sub l j).subset hz1) hx hn
    subst this; exact hz2
theorem flush (h : Tie l lv t) : Tie (leftL l) (keepF lv t) [] := by
  refine ⟨h.tw.flush (fun x hx => h.marks hx), h.asc.filter _, (fun x hx => h.dep x (List.mem_filter.1 hx).1), (fun y hy => h.depv y (keepF_sub hy)), (fun x hx => h.blk x (List.mem_filter.1 hx).1), ?_, ?_, List.Pairwise.nil, (fun y hy => by cases hy)⟩
  · intro x hx hw
    have := (List.mem_filter.1 hx).2
    rw [hw] at this; cases this
  · intro i
    unfold onL leftL
    rw [List.filter_filter, List.filter_filter]
    have : (l.filter fun x => (x.wr && (x.p.b == (i : Int)) && !x.wr)) = [] := by
      rw [List.filter_eq_nil_iff]
      intro x _
      cases x.wr <;> simp
    have e2 : (l.filter fun a => (a.wr && ((a.p.b == (i : Int)) && !a.wr))) = [] := by
      rw [List.filter_eq_nil_iff]
      intro x _
      cases x.wr <;> simp
    first | rw [this] | rw [e2]
    rfl
theorem nil : Tie [] [] [] := ⟨.nil, List.Pairwise.nil, (fun x hx => by cases hx), (fun x hx => by cases hx), (fun x hx => by cases hx), (fun x hx => by cases hx), (fun i => rfl), List.Pairwise.nil, (fun x hx => by cases hx)⟩
theorem rnd (h : Tie l lv t) {S S' : Nat → Bk} {t' : List Tr} {j : Nat} (hq : QRnd lv S t j S' t') : S' = (rndS S l j).1 ∧ Tie (rndS S l j).2 lv t' := by
  induction hq with
  | zero => exact ⟨rfl, h⟩
  | @succ j S1 t1 t2 hr hw ih =>
    obtain ⟨e, ht⟩ := ih
    unfold rndS
    refine ⟨?_, ?_⟩
    · rw [ht.wS, e]
    · rw [e] at hw
      exact ht.write _ j hw
theorem synced {n : Nat} {S S2 : Nat → Bk} {lv2 : List Vr} {t2 : List Tr} {e2 : Int} (hq : QSyn n S lv t S2 lv2 t2 e2) : ∀ {l : List Wr}, Tie l lv t → ∀ {S' : Nat → Bk} {l' : List Wr} {e : Int}, Synced n S l S' l' e → S' = S2 ∧ e = e2 ∧ Tie l' lv2 t2 := by
  induction hq with
  | done =>
    intro l h S' l' e hs
    have h0 : l = [] := by have := h.tw.len; simpa using this.symm
    subst h0
    cases hs with
    | done => exact ⟨rfl, rfl, h⟩
    | stuck h1 => exact absurd rfl h1
    | more h1 => exact absurd rfl h1
  | @stuck S S1 lv t t' hl hr hn =>
    intro l h S' l' e hs
    obtain ⟨e1, ht⟩ := h.rnd hr
    have hfl := ht.flush
    have hlen := hfl.tw.len
    have hl0 := h.tw.len
    cases hs with
    | done => exact absurd (List.length_eq_zero_iff.1 (by rw [hl0]; rfl)) hl
    | stuck h1 he => exact ⟨by subst e1; rfl, rfl, hfl⟩
    | more h1 he =>
      exfalso
      have := length_rouL n S l
      have : (rouL n S l).length = (keepF lv t').length := by rw [hlen]; rfl
      omega
  | @more S S1 S2 lv lv2 t t' t2 e2 hl hr hn hk ih =>
    intro l h S' l' e hs
    obtain ⟨e1, ht⟩ := h.rnd hr
    have hfl := ht.flush
    have hlen := hfl.tw.len
    have hl0 := h.tw.len
    cases hs with
    | done => exact absurd (List.length_eq_zero_iff.1 (by rw [hl0]; rfl)) hl
    | stuck h1 he =>
      exfalso
      have : (rouL n S l).length = (keepF lv t').length := by rw [hlen]; rfl
      omega
    | more h1 he hm =>
      subst e1
      exact ih hfl hm
end Tie
end Go.Proofs.Ytegacggkdjgdiaa

/- The tie of both engines: patches that are added. -/
set_option linter.unusedVariables false
set_option linter.unusedSimpArgs false
namespace Go.Proofs.Ytegacggkdjgdiaa
open Go.RowKit

def OneV (first : Int) (l : List Vr) (k : Int) (x : It) (v : Vr) : Prop := v.num = k ∧ v.p = x.p ∧ v.ds = x.d.map (depN first) ++ (l.filter fun o => o.p.over x.p).map Vr.num
/-- patches that came, one behind the other -/
inductive QAdded (first : Int) (l : List Vr) (k : Int) : List It → List Vr → Prop
  | nil : QAdded first l k [] l
  | snoc {its : List It} {l' : List Vr} {x : It} {v : Vr} (h : QAdded first l k its l') (hv : OneV first l' (k + its.length) x v) : QAdded first l k (its ++ [x]) (l' ++ [v])
theorem QAdded.length {first k : Int} {l l' : List Vr} {its : List It} (h : QAdded first l k its l') : l'.length = l.length + its.length := by
  induction h with
  | nil => simp
  | snoc h hy ih => simp [ih]; omega
theorem QAdded.inv {first k : Int} {l lv' : List Vr} {its : List It} {x : It} (h : QAdded first l k (its ++ [x]) lv') : ∃ m v, lv' = m ++ [v] ∧ QAdded first l k its m ∧ OneV first m (k + its.length) x v := by
  generalize e : its ++ [x] = its2 at h
  cases h with
  | nil => simp at e
  | @snoc its3 l3 x3 v3 h hv =>
    obtain ⟨e1, e2⟩ := List.append_inj' e rfl
    simp at e2
    subst e1; subst e2
    exact ⟨l3, v3, rfl, h, hv⟩
theorem Tw.snoc {l0 l1 r : List Wr} {rv : List Vr} (h : Tw l0 r rv) {x : Wr} {y : Vr} (hn : x.num = y.num) (hp : x.p = y.p) (hd : ∀ d, hasN l1 d = true → (d ∈ x.ah ↔ d ∈ y.ds)) (hold : ∀ z ∈ r, ∀ v ∈ rv, z.num = v.num → (∀ d, hasN l0 d = true → (d ∈ z.ah ↔ d ∈ v.ds)) → ∀ d, hasN l1 d = true → (d ∈ z.ah ↔ d ∈ v.ds)) : Tw l1 (r ++ [x]) (rv ++ [y]) := by
  induction h with
  | nil => exact .cons hn hp hd .nil
  | @cons z v r rv h1 h2 h3 h ih =>
    exact .cons h1 h2 (hold z List.mem_cons_self v List.mem_cons_self h1 h3) (ih (fun a ha b hb => hold a (List.mem_cons_of_mem _ ha) b (List.mem_cons_of_mem _ hb)))
theorem Tw.over {l0 r : List Wr} {rv : List Vr} (h : Tw l0 r rv) (p : Pt) : (rv.filter fun o => o.p.over p).map Vr.num = numsL (r.filter fun o => o.p.over p) := by
  induction h with
  | nil => rfl
  | @cons x y r rv hn hp hd h ih =>
    simp only [List.filter_cons]
    rw [← hp]
    cases x.p.over p with
    | true => simp only [if_true]; unfold numsL at *; rw [List.map_cons, List.map_cons, ih, hn]
    | false => simpa using ih
theorem hasN_snoc (l : List Wr) (y : Wr) (d : Int) : hasN (l ++ [y]) d = (hasN l d || y.num == d) := by simp [hasN]
theorem Tie.add1 {l : List Wr} {lv : List Vr} {t : List Tr} (h : Tie l lv t) {first k : Int} {x : It} {y : Wr} {v : Vr} (hy : OneOf first l k x y) (hv : OneV first lv k x v) (hk : ∀ z ∈ l, z.num < k) (hD : ∀ d ∈ x.d.map (depN first), d < k) (hb : ∃ j : Nat, x.p.b = j) : Tie (l ++ [y]) (lv ++ [v]) t := by
  obtain ⟨y1, y2, y3, y4⟩ := hy
  obtain ⟨v1, v2, v3⟩ := hv
  have hah : ∀ d ∈ y.ah, ∃ z ∈ l, z.num = d ∧ selA (x.d.map (depN first)) x.p z = true := by
    intro d hd
    rw [y3] at hd
    unfold ahL numsL at hd
    obtain ⟨z, hz, rfl⟩ := List.mem_map.1 hd
    obtain ⟨h1, h2⟩ := List.mem_filter.1 hz
    exact ⟨z, h1, rfl, h2⟩
  have hds : ∀ d ∈ v.ds, d < k := by
    intro d hd
    rw [v3, h.tw.over] at hd
    rcases List.mem_append.1 hd with q | q
    · exact hD d q
    · obtain ⟨z, hz, rfl⟩ := List.mem_map.1 q
      exact hk z (List.mem_filter.1 hz).1
  have hkv : ∀ z ∈ lv, z.num < k := by
    intro z hz
    have : z.num ∈ lv.map Vr.num := List.mem_map.2 ⟨z, hz, rfl⟩
    rw [h.tw.nums] at this
    obtain ⟨a, ha, e⟩ := List.mem_map.1 this
    rw [← e]; exact hk a ha
  refine ⟨?_, ?_, ?_, ?_, ?_, ?_, ?_, h.dist, h.tb⟩
  · refine h.tw.snoc (by rw [y1, v1]) (by rw [y2, v2]) ?_ ?_
    · intro d hd
      rw [hasN_snoc, Bool.or_eq_true] at hd
      rcases hd with hd | hd
      · obtain ⟨z, hz, rfl⟩ := hasN_iff.1 hd
        rw [v3, h.tw.over]
        constructor
        · intro q
          obtain ⟨z2, hz2, e, hs⟩ := hah _ q
          have := asc_uniq h.asc hz2 hz e
          subst this
          unfold selA at hs
          rw [Bool.or_eq_true] at hs
          rcases hs with hs | hs
          · refine List.mem_append_left _ ?_
            unfold hasI at hs
            obtain ⟨d, hd, e⟩ := List.any_eq_true.1 hs
            have : d = z2.num := by simpa using e
            rw [← this]; exact hd
          · exact List.mem_append_right _ (List.mem_map.2 ⟨z2, List.mem_filter.2 ⟨hz2, hs⟩, rfl⟩)
        · intro q
          rw [y3]
          unfold ahL
          refine List.mem_map.2 ⟨z, List.mem_filter.2 ⟨hz, ?_⟩, rfl⟩
          unfold selA
          rw [Bool.or_eq_true]
          rcases List.mem_append.1 q with q | q
          · left
            unfold hasI
            exact List.any_eq_true.2 ⟨_, q, by simp⟩
          · right
            obtain ⟨z2, hz2, e⟩ := List.mem_map.1 q
            obtain ⟨h1, h2⟩ := List.mem_filter.1 hz2
            have := asc_uniq h.asc h1 hz e
            subst this; exact h2
      · have e : y.num = d := by simpa using hd
        constructor
        · intro q
          obtain ⟨z, hz, e2, _⟩ := hah _ q
          have := hk z hz; omega
        · intro q
          have := hds d q; omega
    · intro z hz v' hv' hn ho d hd
      rw [hasN_snoc, Bool.or_eq_true] at hd
      rcases hd with hd | hd
      · exact ho d hd
      · have e : y.num = d := by simpa using hd
        constructor
        · intro q
          have := h.dep z hz d q; have := hk z hz; omega
        · intro q
          have := h.depv v' hv' d q; have := hkv v' hv'; omega
  · unfold Asc
    rw [List.pairwise_append]
    refine ⟨h.asc, List.pairwise_singleton _ _, fun a ha b hb' => ?_⟩
    rw [List.mem_singleton] at hb'
    subst hb'
    rw [y1]; exact hk a ha
  · intro z hz d hd
    rcases List.mem_append.1 hz with q | q
    · exact h.dep z q d hd
    · rw [List.mem_singleton] at q
      subst q
      obtain ⟨a, ha, e, _⟩ := hah _ hd
      rw [y1, ← e]; exact hk a ha
  · intro z hz d hd
    rcases List.mem_append.1 hz with q | q
    · exact h.depv z q d hd
    · rw [List.mem_singleton] at q
      subst q
      rw [v1]; exact hds d hd
  · intro z hz
    rcases List.mem_append.1 hz with q | q
    · exact h.blk z q
    · rw [List.mem_singleton] at q
      subst q
      rw [y2]; exact hb
  · intro a ha hw z hz hd
    rcases List.mem_append.1 ha with q | q
    · rcases List.mem_append.1 hz with q2 | q2
      · exact h.cl a q hw z q2 hd
      · rw [List.mem_singleton] at q2
        subst q2
        have := h.dep a q _ hd; have := hk a q
        exfalso; omega
    · rw [List.mem_singleton] at q
      subst q
      rw [y4] at hw; cases hw
  · intro i
    rw [h.last i]
    unfold onL
    rw [List.filter_append, List.filter_append]
    have : ([y].filter fun x => x.p.b == (i : Int)).filter Wr.wr = [] := by
      rw [List.filter_filter, List.filter_eq_nil_iff]
      intro a ha
      rw [List.mem_singleton] at ha
      subst ha
      rw [y4]; simp
    rw [this, List.append_nil]
theorem Added.nums {first k : Int} {l l' : List Wr} {its : List It} (h : Added first l k its l') (hk : ∀ z ∈ l, z.num < k) : ∀ z ∈ l', z.num < k + its.length := by
  induction h with
  | nil => intro z hz; have := hk z hz; simp; omega
  | snoc h hy ih =>
    intro z hz
    rw [List.length_append]
    rcases List.mem_append.1 hz with q | q
    · have := ih z q; simp; omega
    · rw [List.mem_singleton] at q
      subst q
      rw [hy.1]; simp; omega
theorem itN_left {a : List It} {x : It} {j : Nat} (h : j < a.length) : itN (a ++ [x]) j = itN a j := by
  unfold itN
  rw [List.getD_eq_getElem?_getD, List.getD_eq_getElem?_getD, List.getElem?_append_left h]
theorem itN_last (a : List It) (x : It) : itN (a ++ [x]) a.length = x := by
  unfold itN
  rw [List.getD_eq_getElem?_getD, List.getElem?_append_right (Nat.le_refl _)]
  simp
theorem Tie.added {l : List Wr} {lv : List Vr} {t : List Tr} (h : Tie l lv t) {k : Int} {its : List It} {l' : List Wr} (ha : Added k l k its l') : ∀ {lv' : List Vr}, QAdded k lv k its lv' → (∀ z ∈ l, z.num < k) → (∀ x ∈ its, ∃ j : Nat, x.p.b = j) → (∀ j, j < its.length → ∀ d ∈ (itN its j).d, d < k ∧ -1 - d < j) → Tie l' lv' t := by
  induction ha with
  | nil =>
    intro lv' hq _ _ _
    generalize e : ([] : List It) = its2 at hq
    cases hq with
    | nil => exact h
    | snoc _ _ => simp at e
  | @snoc its l1 x y ha hy ih =>
    intro lv' hq hk hb hd
    obtain ⟨m, v, rfl, hq1, hv⟩ := hq.inv
    have h1 := ih hq1 hk (fun z hz => hb z (List.mem_append_left _ hz)) (fun j hj d hdd => hd j (by simp; omega) d (by rw [itN_left hj]; exact hdd))
    refine h1.add1 hy hv (ha.nums hk) ?_ (hb x (by simp))
    intro d hdd
    obtain ⟨d0, hd0, rfl⟩ := List.mem_map.1 hdd
    have := hd its.length (by simp) d0 (by rw [itN_last]; exact hd0)
    unfold depN
    split <;> omega
end Go.Proofs.Ytegacggkdjgdiaa

/- Without bad blocks Sync lets all last. -/
set_option linter.unusedVariables false
set_option linter.unusedSimpArgs false
namespace Go.Proofs.Ytegacggkdjgdiaa
open Go.RowKit

theorem ready_first {x : Wr} {l : List Wr} (ha : Asc (x :: l)) (hd : ∀ d ∈ x.ah, d < x.num) : x ∈ readyL (x :: l) x.p.b := by
  have h1 := (List.pairwise_cons.1 ha).1
  have hok : okIn (x :: l) [] x = true := by
    unfold okIn
    rw [List.all_eq_true]
    intro d hdd
    have hlt := hd d hdd
    have : hasN (x :: l) d = false := by
      rw [hasN_no]
      intro z hz
      rcases List.mem_cons.1 hz with rfl | hz
      · omega
      · have := h1 z hz; omega
    rw [this]; rfl
  unfold readyL
  have e : onL (x :: l) x.p.b = x :: onL l x.p.b := by unfold onL; rw [List.filter_cons_of_pos (by simp)]
  rw [e]
  unfold keepL
  rw [if_pos hok]
  obtain ⟨s, _, hs⟩ := keepL_sub (x :: l) (onL l x.p.b) ([] ++ [x])
  rw [hs]
  simp
theorem wrL_nums (S : Nat → Bk) (l : List Wr) (i : Nat) : numsL (wrL S l i) = numsL l := by
  unfold wrL
  split
  · exact numsL_markL _ _
  · rfl
theorem rnd_nums (S : Nat → Bk) (l : List Wr) (j : Nat) : numsL (rndS S l j).2 = numsL l := by
  induction j with
  | zero => rfl
  | succ j ih => unfold rndS; rw [wrL_nums, ih]
theorem wrL_mem {S : Nat → Bk} {l : List Wr} {i : Nat} {y : Wr} (h : y ∈ wrL S l i) : ∃ z ∈ l, y.num = z.num ∧ y.p = z.p ∧ y.ah = z.ah := by
  unfold wrL at h
  split at h
  · obtain ⟨z, hz, h1, h2, h3, _⟩ := mem_markL h
    exact ⟨z, hz, h1, h2, h3⟩
  · exact ⟨y, h, rfl, rfl, rfl⟩
theorem rnd_mem {S : Nat → Bk} {l : List Wr} {j : Nat} {y : Wr} (h : y ∈ (rndS S l j).2) : ∃ z ∈ l, y.num = z.num ∧ y.p = z.p ∧ y.ah = z.ah := by
  induction j generalizing y with
  | zero => exact ⟨y, h, rfl, rfl, rfl⟩
  | succ j ih =>
    unfold rndS at h
    obtain ⟨z, hz, h1, h2, h3⟩ := wrL_mem h
    obtain ⟨u, hu, k1, k2, k3⟩ := ih hz
    exact ⟨u, hu, h1.trans k1, h2.trans k2, h3.trans k3⟩
theorem wrS_b (S : Nat → Bk) (l : List Wr) (i j : Nat) : (wrS S l i j).b = (S j).b := by
  unfold wrS
  split
  · unfold upd
    split
    · next e => subst e; rfl
    · rfl
  · rfl
theorem rnd_b (S : Nat → Bk) (l : List Wr) (i j : Nat) : ((rndS S l i).1 j).b = (S j).b := by
  induction i with
  | zero => rfl
  | succ i ih => unfold rndS; rw [wrS_b, ih]
theorem flushed_b (x : Bk) : x.flushed.b = x.b := rfl
theorem flushed_v (x : Bk) : x.flushed.v = [] := rfl
theorem rou_b (n : Nat) (S : Nat → Bk) (l : List Wr) (j : Nat) : (rouS n S l j).b = (S j).b := by unfold rouS; rw [flushed_b, rnd_b]
theorem rnd_first {S : Nat → Bk} {x : Wr} {l : List Wr} (ha : Asc (x :: l)) (hd : ∀ d ∈ x.ah, d < x.num) {n : Nat} (hb : ∀ j, j < n → (S j).b = false) : ∀ j, j ≤ n → ∃ x' l', (rndS S (x :: l) j).2 = x' :: l' ∧ x'.num = x.num ∧ x'.p = x.p ∧ x'.ah = x.ah ∧ (x.p.b < (j : Int) → 0 ≤ x.p.b → x'.wr = true) := by
  intro j
  induction j with
  | zero => intro _; exact ⟨x, l, rfl, rfl, rfl, rfl, fun h1 h2 => by omega⟩
  | succ j ih =>
    intro hj
    obtain ⟨x', l', e, h1, h2, h3, h4⟩ := ih (by omega)
    have hA : Asc (x' :: l') := by rw [← e, asc_iff, rnd_nums, ← asc_iff]; exact ha
    have hD : ∀ d ∈ x'.ah, d < x'.num := by rw [h1, h3]; exact hd
    have hR := ready_first hA hD
    have hbj : ((rndS S (x :: l) j).1 j).b = false := by rw [rnd_b]; exact hb j (by omega)
    have e2 : (rndS S (x :: l) (j + 1)).2 = wrL (rndS S (x :: l) j).1 (x' :: l') j := by
      conv => lhs; unfold rndS
      rw [e]
    rw [e2]
    unfold wrL
    cases hg : wgo (rndS S (x :: l) j).1 (x' :: l') j with
    | true =>
      rw [if_pos rfl]
      refine ⟨if hasN (readyL (x' :: l') j) x'.num then x'.done else x', markL l' (readyL (x' :: l') j), rfl, ?_, ?_, ?_, ?_⟩
      · rw [← h1]; split <;> rfl
      · rw [← h2]; split <;> rfl
      · rw [← h3]; split <;> rfl
      · intro q1 q2
        by_cases q : x.p.b < (j : Int)
        · have := h4 q q2
          split
          · rfl
          · exact this
        · have q3 : x'.p.b = (j : Int) := by rw [h2]; omega
          rw [q3] at hR
          rw [if_pos (hasN_iff.2 ⟨x', hR, rfl⟩)]
          rfl
    | false =>
      rw [if_neg (by decide)]
      refine ⟨x', l', rfl, h1, h2, h3, ?_⟩
      intro q1 q2
      by_cases q : x.p.b < (j : Int)
      · exact h4 q q2
      · have q3 : x'.p.b = (j : Int) := by rw [h2]; omega
        rw [q3] at hR
        unfold wgo wact at hg
        rw [hbj, Bool.not_false, Bool.and_true, List.any_eq_false] at hg
        have := hg x' hR
        simpa using this
/-- what Sync asks for -/
structure Goes (n : Nat) (S : Nat → Bk) (l : List Wr) : Prop where
  asc : Asc l
  dep : ∀ x ∈ l, ∀ d ∈ x.ah, d < x.num
  blk : ∀ x ∈ l, 0 ≤ x.p.b ∧ x.p.b < n
  good : ∀ j, j < n → (S j).b = false
theorem Goes.rou {n : Nat} {S : Nat → Bk} {l : List Wr} (h : Goes n S l) : Goes n (rouS n S l) (rouL n S l) := by
  have hm : ∀ y ∈ rouL n S l, ∃ z ∈ l, y.num = z.num ∧ y.p = z.p ∧ y.ah = z.ah := fun y hy => rnd_mem (List.mem_filter.1 hy).1
  refine ⟨?_, ?_, ?_, fun j hj => by rw [rou_b]; exact h.good j hj⟩
  · have : Asc (rndS S l n).2 := by rw [asc_iff, rnd_nums, ← asc_iff]; exact h.asc
    exact this.filter _
  · intro y hy d hd
    obtain ⟨z, hz, h1, h2, h3⟩ := hm y hy
    rw [h1]; rw [h3] at hd; exact h.dep z hz d hd
  · intro y hy
    obtain ⟨z, hz, h1, h2, h3⟩ := hm y hy
    rw [h2]; exact h.blk z hz
theorem Goes.less {n : Nat} {S : Nat → Bk} {l : List Wr} (h : Goes n S l) (hl : l ≠ []) : (rouL n S l).length < l.length := by
  cases l with
  | nil => exact absurd rfl hl
  | cons x r =>
    obtain ⟨b0, b1⟩ := h.blk x List.mem_cons_self
    obtain ⟨x', l', e, _, _, _, hw⟩ := rnd_first h.asc (h.dep x List.mem_cons_self) h.good n (Nat.le_refl _)
    have hw := hw b1 b0
    have hlen := length_rnd S (x :: r) n
    unfold rouL leftL
    rw [e] at hlen ⊢
    rw [List.filter_cons_of_neg (by simp [hw])]
    have := List.length_filter_le (fun x : Wr => !x.wr) l'
    simp at hlen ⊢
    omega
theorem Goes.all {n : Nat} {S S' : Nat → Bk} {l l' : List Wr} {e : Int} (hs : Synced n S l S' l' e) : Goes n S l → l' = [] ∧ e = 0 ∧ ((l = [] ∧ S' = S) ∨ ∀ j, (S' j).v = []) := by
  induction hs with
  | done => intro h; exact ⟨rfl, rfl, .inl ⟨rfl, rfl⟩⟩
  | stuck hl he => intro h; have := h.less hl; omega
  | @more S l S' l' e hl he hr ih =>
    intro h
    obtain ⟨h1, h2, h3⟩ := ih h.rou
    refine ⟨h1, h2, .inr ?_⟩
    rcases h3 with ⟨_, rfl⟩ | h3
    · intro j; rfl
    · exact h3
theorem left_nil (s : List Int) (b : Bool) (p : Option Int) : ((Bk.mk s [] b).left p).s = s := by
  unfold Bk.left
  cases p with
  | none => rfl
  | some p =>
    have : pickAt [] p = none := by unfold pickAt; split <;> simp
    simp [this]
theorem crashed_still {n : Nat} {S : Nat → Bk} (pick : List Int) {j : Nat} (h : (S j).v = []) : (crashed n S pick j).s = (S j).s := by
  unfold crashed
  obtain ⟨s, v, b⟩ : ∃ x : Bk, x = S j := ⟨_, rfl⟩
  cases hs : S j with
  | mk s v b =>
    rw [hs] at h
    dsimp only at h
    subst h
    exact left_nil s b _
end Go.Proofs.Ytegacggkdjgdiaa

/- What a block is does not hang on what was written: what last, what is written, what waits. -/
set_option linter.unusedVariables false
set_option linter.unusedSimpArgs false
namespace Go.Proofs.Ytegacggkdjgdiaa
open Go.RowKit

theorem nth_put2 {l : List Int} {p q : Pt} (hp : p.right = true) (hq : q.right = true) (hl : l.length = 32) (i : Nat) :
    nth (put (put l p) q) i = if q.o.toNat ≤ i ∧ i < q.o.toNat + q.s.size then nth (sb q.s) (i - q.o.toNat) else if p.o.toNat ≤ i ∧ i < p.o.toNat + p.s.size then nth (sb p.s) (i - p.o.toNat) else nth l i := by
  rw [nth_put hq (length_put hp hl), nth_put hp hl]
theorem put_swap {l : List Int} {p q : Pt} (hp : p.right = true) (hq : q.right = true) (hb : p.b = q.b) (h : p.over q = false) (hl : l.length = 32) : put (put l p) q = put (put l q) p := by
  have hbo : p.both q = true := by simp [Pt.both, hp, hq, hb]
  have h' : ¬ (p.o < q.o + q.s.size ∧ q.o < p.o + p.s.size) := by simpa [Pt.over, hbo] using h
  obtain ⟨p1, p2, p3, p4, p5, p6⟩ := Pt.right_out hp
  obtain ⟨q1, q2, q3, q4, q5, q6⟩ := Pt.right_out hq
  refine ext_nth (by rw [length_put hq (length_put hp hl), length_put hp (length_put hq hl)]) fun i _ => ?_
  rw [nth_put2 hp hq hl, nth_put2 hq hp hl]
  by_cases h1 : q.o.toNat ≤ i ∧ i < q.o.toNat + q.s.size
  · rw [if_pos h1, if_neg (by omega), if_pos h1]
  · rw [if_neg h1, if_neg h1]
theorem putL_nil (s : List Int) : putL s [] = s := rfl
theorem putL_append (s : List Int) (a b : List Wr) : putL s (a ++ b) = putL (putL s a) b := by
  unfold putL ptsL; rw [List.map_append, List.foldl_append]
theorem putL_one (s : List Int) (x : Wr) : putL s [x] = put s x.p := rfl
theorem putL_cons (s : List Int) (x : Wr) (l : List Wr) : putL s (x :: l) = putL (put s x.p) l := rfl
theorem putL_map (s : List Int) (f : Wr → Wr) (h : ∀ x, (f x).p = x.p) (l : List Wr) : putL s (l.map f) = putL s l := by
  unfold putL ptsL
  rw [List.map_map]
  congr 1
  apply List.map_congr_left
  intro x _
  exact h x
theorem putL_len {s : List Int} (hs : s.length = 32) {l : List Wr} (h : ∀ x ∈ l, x.p.right = true) : (putL s l).length = 32 := by
  induction l generalizing s with
  | nil => exact hs
  | cons x r ih =>
    rw [putL_cons]
    exact ih (length_put (h x List.mem_cons_self) hs) (fun y hy => h y (List.mem_cons_of_mem _ hy))
/-- one that overlaps none of some may come ahead of them -/
theorem putL_swap {y : Wr} (hy : y.p.right = true) : ∀ (u : List Wr) (s : List Int), s.length = 32 → (∀ x ∈ u, x.p.right = true ∧ x.p.b = y.p.b ∧ x.p.over y.p = false) → putL (put s y.p) u = put (putL s u) y.p
  | [], s, hs, h => rfl
  | x :: r, s, hs, h => by
    obtain ⟨h1, h2, h3⟩ := h x List.mem_cons_self
    rw [putL_cons, putL_cons, ← put_swap h1 hy h2 h3 hs]
    exact putL_swap hy r _ (length_put h1 hs) (fun z hz => h z (List.mem_cons_of_mem _ hz))
theorem rev_ind {P : List Wr → Prop} (h0 : P []) (h1 : ∀ m y, P m → P (m ++ [y])) (m : List Wr) : P m := by
  rw [← List.reverse_reverse m]
  induction m.reverse with
  | nil => exact h0
  | cons x r ih => rw [List.reverse_cons]; exact h1 _ _ ih
/-- the written ones first, then those that are not -/
theorem putL_split {s : List Int} (hs : s.length = 32) : ∀ (m : List Wr), (∀ x ∈ m, x.p.right = true) → (∀ x ∈ m, ∀ y ∈ m, x.p.b = y.p.b) → m.Pairwise (fun x y => x.wr = false → y.wr = true → x.p.over y.p = false) → putL (putL s (m.filter Wr.wr)) (m.filter fun x => !x.wr) = putL s m := by
  refine rev_ind ?_ ?_
  · intros; rfl
  · intro m y ih
    intro hr hb hp
    obtain ⟨hp1, _, hp2⟩ := List.pairwise_append.1 hp
    have ih := ih (fun x hx => hr x (List.mem_append_left _ hx)) (fun x hx z hz => hb x (List.mem_append_left _ hx) z (List.mem_append_left _ hz)) hp1
    have hym : y ∈ m ++ [y] := by simp
    rw [List.filter_append, List.filter_append, putL_append s m [y], putL_one]
    cases hw : y.wr with
    | true =>
      have e1 : [y].filter Wr.wr = [y] := by simp [hw]
      have e2 : ([y].filter fun x => !x.wr) = [] := by simp [hw]
      rw [e1, e2, List.append_nil, putL_append, putL_one, putL_swap (hr y hym) _ _ (putL_len hs (fun x hx => hr x (List.mem_append_left _ (List.mem_filter.1 hx).1))), ih]
      intro x hx
      obtain ⟨hx1, hx2⟩ := List.mem_filter.1 hx
      exact ⟨hr x (List.mem_append_left _ hx1), hb x (List.mem_append_left _ hx1) y hym, hp2 x hx1 y (by simp) (by simpa using hx2) hw⟩
    | false =>
      have e1 : [y].filter Wr.wr = [] := by simp [hw]
      have e2 : ([y].filter fun x => !x.wr) = [y] := by simp [hw]
      rw [e1, e2, List.append_nil, putL_append, putL_one, ih]
/-- what is asked of blocks and of what waits -/
structure Fine (S : Nat → Bk) (l : List Wr) : Prop where
  idle : ∀ j, (S j).v ≠ [] → ∃ x ∈ l, x.wr = true
  ov : ∀ x ∈ l, ∀ y ∈ l, x.num < y.num → x.p.over y.p = true → x.num ∈ y.ah
  now : ∀ j : Nat, (S j).now = putL (S j).s ((onL l (j : Int)).filter Wr.wr)
  len : ∀ j : Nat, (S j).s.length = 32
namespace Fine
variable {S : Nat → Bk} {l : List Wr} {lv : List Vr} {t : List Tr}
theorem flush (h : Fine S l) (ht : Tie l lv t) (hr : RightL l) : Fine (fun j => (S j).flushed) (leftL l) := by
  refine ⟨fun j hv => absurd rfl hv, fun x hx y hy => h.ov x (List.mem_filter.1 hx).1 y (List.mem_filter.1 hy).1, fun j => ?_, fun j => ?_⟩
  · have : (onL (leftL l) (j : Int)).filter Wr.wr = [] := by
      rw [List.filter_eq_nil_iff]
      intro x hx
      have h1 := (List.mem_filter.1 hx).1
      have h2 := (List.mem_filter.1 h1).2
      simpa using h2
    rw [this]; rfl
  · show ((S j).now).length = 32
    rw [h.now j]
    exact putL_len (h.len j) (fun x hx => hr x ((onL_sub l j).subset (List.mem_filter.1 hx).1))
/-- the block's bytes are the same behind a Flush -/
theorem same_flush (h : Fine S l) (ht : Tie l lv t) (hr : RightL l) (j : Nat) : putL ((S j).flushed).s (onL (leftL l) (j : Int)) = putL (S j).s (onL l (j : Int)) := by
  show putL (S j).now (onL (leftL l) (j : Int)) = _
  rw [h.now j]
  have e : onL (leftL l) (j : Int) = (onL l (j : Int)).filter fun x => !x.wr := by
    unfold onL leftL
    rw [List.filter_filter, List.filter_filter]
    apply List.filter_congr
    intro x _
    exact Bool.and_comm _ _
  rw [e]
  have hon : ∀ x ∈ onL l (j : Int), x ∈ l ∧ x.p.b = (j : Int) := fun x hx => ⟨(List.mem_filter.1 hx).1, by have := (List.mem_filter.1 hx).2; simpa using this⟩
  refine putL_split (h.len j) _ (fun x hx => hr x (hon x hx).1) (fun x hx y hy => by rw [(hon x hx).2, (hon y hy).2]) ?_
  have ha : Asc (onL l (j : Int)) := ht.asc.sub (onL_sub l j)
  refine List.Pairwise.imp_of_mem ?_ ha
  intro x y hx hy hlt hxw hyw
  cases hov : x.p.over y.p with
  | false => rfl
  | true =>
    have h1 := h.ov x (hon x hx).1 y (hon y hy).1 hlt hov
    have h2 := (ht.cl y (hon y hy).1 hyw x (hon x hx).1 h1).1
    rw [hxw] at h2; cases h2
theorem written (R : List Wr) (j : Nat) (s : List Int) : putL s ((onL (markL l R) (j : Int)).filter Wr.wr) = putL s (l.filter fun x => (x.p.b == (j : Int)) && (hasN R x.num || x.wr)) := by
  unfold onL markL
  rw [List.filter_filter, List.filter_map, putL_map s _ (fun x => by split <;> rfl)]
  congr 1
  apply List.filter_congr
  intro x _
  simp only [Function.comp]
  cases hasN R x.num <;> simp [Wr.done, Bool.and_comm]
theorem write (h : Fine S l) (ht : Tie l lv t) (i : Nat) : Fine (wrS S l i) (wrL S l i) := by
  unfold wrL wrS
  by_cases hg : wgo S l i = true
  · rw [if_pos hg, if_pos hg]
    refine ⟨fun j hv => ?_, ?_, fun j => ?_, fun j => ?_⟩
    · unfold wgo wact at hg
      rw [Bool.and_eq_true] at hg
      obtain ⟨x, hx, _⟩ := List.any_eq_true.1 hg.1
      refine ⟨_, List.mem_map.2 ⟨x, (readyL_subL l i).subset hx, rfl⟩, ?_⟩
      rw [if_pos (hasN_iff.2 ⟨x, hx, rfl⟩)]
      rfl
    · intro x' hx' y' hy' hlt hov
      obtain ⟨x, hx, h1, h2, h3, _⟩ := mem_markL hx'
      obtain ⟨y, hy, k1, k2, k3, _⟩ := mem_markL hy'
      rw [h1, k3]
      rw [h1, k1] at hlt
      rw [h2, k2] at hov
      exact h.ov x hx y hy hlt hov
    · by_cases e : j = i
      · subst e
        rw [upd_same]
        have e2 := filter_sub (readyL_subL l j) ht.asc (fun x => (x.p.b == (j : Int)) && (hasN (readyL l j) x.num || x.wr)) (fun x hx hp => by
          rw [Bool.and_eq_true, Bool.or_eq_true] at hp
          rcases hp.2 with q | q
          · exact ht.mem_ready hx q
          · have := ht.wr_ready hx q
            rwa [show x.p.b = (j : Int) by simpa using hp.1] at this)
        rw [written, ← e2, filter_all (fun x hx => by rw [Bool.and_eq_true]; exact ⟨by simp [readyL_on hx], by rw [hasN_iff.2 ⟨x, hx, rfl⟩]; rfl⟩)]
        show (((S j).v ++ [putL (S j).s (readyL l (j : Int))]).getLast?).getD (S j).s = _
        rw [List.getLast?_concat]
        rfl
      · rw [upd_other _ _ e, h.now j, written]
        congr 1
        unfold onL
        rw [List.filter_filter]
        apply List.filter_congr
        intro x hx
        cases hb : (x.p.b == (j : Int)) with
        | false => simp
        | true =>
          have : hasN (readyL l i) x.num = false := by
            cases hr : hasN (readyL l i) x.num with
            | false => rfl
            | true =>
              have h1 := readyL_on (ht.mem_ready hx hr)
              have h2 : x.p.b = (j : Int) := by simpa using hb
              omega
          rw [this]; simp
    · by_cases e : j = i
      · subst e; rw [upd_same]; exact h.len j
      · rw [upd_other _ _ e]; exact h.len j
  · rw [if_neg hg, if_neg hg]; exact h
/-- the block's bytes are the same behind a Write -/
theorem same_write (S : Nat → Bk) (l : List Wr) (i j : Nat) : putL (wrS S l i j).s (onL (wrL S l i) (j : Int)) = putL (S j).s (onL l (j : Int)) := by
  have e1 : (wrS S l i j).s = (S j).s := by
    unfold wrS
    split
    · by_cases e : j = i
      · subst e; rw [upd_same]
      · rw [upd_other _ _ e]
    · rfl
  rw [e1]
  unfold wrL
  split
  · unfold onL markL
    rw [List.filter_map, putL_map _ _ (fun x => by split <;> rfl)]
    congr 1
    apply List.filter_congr
    intro x _
    simp only [Function.comp]
    split <;> rfl
  · rfl
theorem add1 (h : Fine S l) (ht : Tie l lv t) {first k : Int} {x : It} {y : Wr} (hy : OneOf first l k x y) (hk : ∀ z ∈ l, z.num < k) : Fine S (l ++ [y]) := by
  obtain ⟨y1, y2, y3, y4⟩ := hy
  refine ⟨fun j hv => ?_, fun a ha b hb hlt hov => ?_, fun j => ?_, h.len⟩
  · obtain ⟨z, hz, hw⟩ := h.idle j hv
    exact ⟨z, List.mem_append_left _ hz, hw⟩
  · rcases List.mem_append.1 ha with qa | qa
    · rcases List.mem_append.1 hb with qb | qb
      · exact h.ov a qa b qb hlt hov
      · rw [List.mem_singleton] at qb
        subst qb
        rw [y3]
        unfold ahL
        refine List.mem_map.2 ⟨a, List.mem_filter.2 ⟨qa, ?_⟩, rfl⟩
        unfold selA
        rw [← y2, hov, Bool.or_true]
    · rw [List.mem_singleton] at qa
      subst qa
      rcases List.mem_append.1 hb with qb | qb
      · have := hk b qb; omega
      · rw [List.mem_singleton] at qb
        subst qb; omega
  · rw [h.now j]
    congr 1
    unfold onL
    rw [List.filter_append, List.filter_append]
    have : ([y].filter fun x => x.p.b == (j : Int)).filter Wr.wr = [] := by
      rw [List.filter_filter, List.filter_eq_nil_iff]
      intro a ha
      rw [List.mem_singleton] at ha
      subst ha
      rw [y4]; simp
    rw [this, List.append_nil]
theorem spoil (h : Fine S l) (i : Nat) (b : Bool) : Fine (upd S i ⟨(S i).s, (S i).v, b⟩) l := by
  have e1 : ∀ j, (upd S i ⟨(S i).s, (S i).v, b⟩ j).v = (S j).v := fun j => by
    by_cases e : j = i
    · subst e; rw [upd_same]
    · rw [upd_other _ _ e]
  have e2 : ∀ j, (upd S i ⟨(S i).s, (S i).v, b⟩ j).s = (S j).s := fun j => by
    by_cases e : j = i
    · subst e; rw [upd_same]
    · rw [upd_other _ _ e]
  refine ⟨fun j hv => h.idle j (by rw [← e1 j]; exact hv), h.ov, fun j => ?_, fun j => by rw [e2]; exact h.len j⟩
  unfold Bk.now
  rw [e1, e2]
  exact h.now j
theorem nil : Fine (fun (j : Nat) => (Bk.mk noSec [] false).flushed) [] := ⟨fun j hv => absurd rfl hv, (fun x hx => by cases hx), fun j => rfl, fun j => rfl⟩
end Fine
theorem Fine.added {S : Nat → Bk} {l : List Wr} {lv : List Vr} {t : List Tr} (h : Fine S l) (ht : Tie l lv t) {k : Int} {its : List It} {l' : List Wr} (ha : Added k l k its l') : ∀ {lv' : List Vr}, QAdded k lv k its lv' → (∀ z ∈ l, z.num < k) → (∀ x ∈ its, ∃ j : Nat, x.p.b = j) → (∀ j, j < its.length → ∀ d ∈ (itN its j).d, d < k ∧ -1 - d < j) → Fine S l' := by
  induction ha with
  | nil => intro lv' hq _ _ _; exact h
  | @snoc its l1 x y ha hy ih =>
    intro lv' hq hk hb hd
    obtain ⟨m, v, rfl, hq1, hv⟩ := hq.inv
    have hb1 : ∀ z ∈ its, ∃ j : Nat, z.p.b = j := fun z hz => hb z (List.mem_append_left _ hz)
    have hd1 : ∀ j, j < its.length → ∀ d ∈ (itN its j).d, d < k ∧ -1 - d < j := fun j hj d hdd => hd j (by simp; omega) d (by rw [itN_left hj]; exact hdd)
    exact (ih hq1 hk hb1 hd1).add1 (ht.added ha hq1 hk hb1 hd1) hy (ha.nums hk)
theorem Fine.rnd {S S' : Nat → Bk} {l : List Wr} {lv : List Vr} {t t' : List Tr} {j : Nat} (h : Fine S l) (ht : Tie l lv t) (hq : QRnd lv S t j S' t') : Fine (rndS S l j).1 (rndS S l j).2 := by
  induction hq with
  | zero => exact h
  | @succ j S1 t1 t2 hr hw ih =>
    unfold rndS
    exact ih.write (ht.rnd hr).2 j
theorem right_mem {l l' : List Wr} (h : RightL l) (hm : ∀ y ∈ l', ∃ z ∈ l, y.num = z.num ∧ y.p = z.p ∧ y.ah = z.ah) : RightL l' := fun y hy => by
  obtain ⟨z, hz, _, e, _⟩ := hm y hy
  rw [e]; exact h z hz
theorem Fine.synced {n : Nat} {S S2 : Nat → Bk} {lv lv2 : List Vr} {t t2 : List Tr} {e2 : Int} (hq : QSyn n S lv t S2 lv2 t2 e2) : ∀ {l : List Wr}, Tie l lv t → Fine S l → RightL l → ∀ {S' : Nat → Bk} {l' : List Wr} {e : Int}, Synced n S l S' l' e → Fine S' l' := by
  induction hq with
  | done =>
    intro l h hf hr S' l' e hs
    have h0 : l = [] := by have := h.tw.len; simpa using this.symm
    subst h0
    cases hs with
    | done => exact hf
    | stuck h1 => exact absurd rfl h1
    | more h1 => exact absurd rfl h1
  | @stuck S S1 lv t t' hl hr hn =>
    intro l h hf hR S' l' e hs
    obtain ⟨e1, ht⟩ := h.rnd hr
    have hff := (hf.rnd h hr).flush ht (right_mem hR (fun y hy => rnd_mem hy))
    have hfl := ht.flush
    have hlen := hfl.tw.len
    have hl0 := h.tw.len
    cases hs with
    | done => exact absurd (List.length_eq_zero_iff.1 (by rw [hl0]; rfl)) hl
    | stuck h1 he => exact hff
    | more h1 he =>
      exfalso
      have := length_rouL n S l
      have : (rouL n S l).length = (keepF lv t').length := by rw [hlen]; rfl
      omega
  | @more S S1 S2 lv lv2 t t' t2 e2 hl hr hn hk ih =>
    intro l h hf hR S' l' e hs
    obtain ⟨e1, ht⟩ := h.rnd hr
    have hR2 := right_mem hR (fun y hy => rnd_mem (S := S) (j := n) hy)
    have hff := (hf.rnd h hr).flush ht hR2
    have hfl := ht.flush
    have hlen := hfl.tw.len
    have hl0 := h.tw.len
    cases hs with
    | done => exact absurd (List.length_eq_zero_iff.1 (by rw [hl0]; rfl)) hl
    | stuck h1 he =>
      exfalso
      have : (rouL n S l).length = (keepF lv t').length := by rw [hlen]; rfl
      omega
    | more h1 he hm =>
      subst e1
      exact ih hfl hff (fun y hy => hR2 y (List.mem_filter.1 hy).1) hm
end Go.Proofs.Ytegacggkdjgdiaa
