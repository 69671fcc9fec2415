/- Contract of the document's Thin. -/
import Derived.Test.YtmekffcpbjmffaaYG
import Derived.Test.YtmekffcpbjmffaaN
namespace Go.Proofs.Ytmekffcpbjmffaa
open Go.RowKit

def ccM (D : List (List Nat)) (k : Nat) : Nat → Bool := fun x => decide (x ∈ rowN D k) && !((rowN D k).any fun d => befB D x d)
theorem ccM_iff {D : List (List Nat)} (hD : Right D) {k x : Nat} : ccM D k x = true ↔ x ∈ thinRow D k := by
  rw [mem_thinRow hD]
  unfold ccM
  simp only [Bool.and_eq_true, decide_eq_true_eq, Bool.not_eq_true', List.any_eq_false]
  constructor
  · rintro ⟨h1, h2⟩
    refine ⟨h1, ?_⟩
    rintro ⟨d, hd, hm⟩
    exact h2 d hd ((befB_iff hD).2 ⟨x, d, rfl, rfl, hm⟩)
  · rintro ⟨h1, h2⟩
    refine ⟨h1, fun d hd hb => h2 ?_⟩
    obtain ⟨x', y', e1, e2, hm⟩ := (befB_iff hD).1 hb
    have e3 : x = x' := by omega
    have e4 : d = y' := by omega
    subst e3 e4
    exact ⟨d, hd, hm⟩
theorem thinRow_eq {D : List (List Nat)} (hD : Right D) {k : Nat} (hk : k < D.length) : listM k (ccM D k) = thinRow D k := by
  have h256 := hD.1
  rw [← listM_more (B' := 256) (by omega) (fun x h => hD.2 k x ((mem_thinRow hD).1 ((ccM_iff hD).1 h)).1)]
  unfold thinRow listM
  refine List.filter_congr fun x hx => ?_
  have hx' : x < 256 := List.mem_range.1 hx
  have h1 := ccM_iff hD (k := k) (x := x)
  unfold thinRow at h1
  rw [mem_listM] at h1
  rw [Bool.eq_iff_iff, h1]
  exact ⟨fun h => h.2, fun h => ⟨hx', h⟩⟩
theorem own_apart {W : World} {b1 b2 s1 s2 n1 n2 : Nat} {e1 e2 : TypeId} {v1 v2 : Value} {x1 x2 : List Value} (h1 : W.ownsRow b1 e1 s1 v1 n1 x1) (h2 : W.ownsRow b2 e2 s2 v2 n2 x2) (hne : e1 ≠ e2) : v1.ownBlock = none ∨ v1.ownBlock ≠ v2.ownBlock := by
  rcases h1.2 with ⟨rfl, _⟩ | ⟨g, cap, cur, rfl, _, hg, _⟩
  · exact .inl rfl
  · refine .inr fun e => ?_
    rcases h2.2 with ⟨rfl, _⟩ | ⟨g', cap', cur', rfl, _, hg', _⟩
    · simp [Value.ownBlock] at e
    · obtain rfl : g = g' := by simpa [Value.ownBlock] using e
      rw [hg] at hg'
      simp at hg'
      exact hne hg'.2
structure RtSt (w wr : World) (D : List (List Nat)) (v : Value) (k : Nat) (xs : List Value) : Prop where
  own : wr.ownsRow w.heap.size 23 1 v k xs
  rows : ∀ j, j < k → ∃ vj, xs[j]? = some vj ∧ wr.ownsRow w.heap.size 3 1 vj (thinRow D j).length (natsV (thinRow D j))
  below : Below w.heap.size w wr
theorem RtSt.mat {w wr : World} {D : List (List Nat)} {v : Value} {xs : List Value} (h : RtSt w wr D v D.length xs) : ∃ A c, v = .slice A D.length c ∧ Mat wr wr.heap.size A (rowsI (thinL D)) := by
  rcases h.own.2 with ⟨rfl, hn⟩ | ⟨g, cap, cur, rfl, hbg, hg, hnc, hcm, _⟩
  · rw [hn]; exact ⟨none, 0, rfl, fun hp => by rw [length_rowsI, length_thinL, hn] at hp; omega⟩
  · refine ⟨some ⟨g, 0, none⟩, cap, rfl, fun _ => ⟨g, 0, rfl, (h.own.lt g rfl).2, fun k hk => ?_⟩⟩
    rw [length_rowsI, length_thinL] at hk
    obtain ⟨vj, hx, ho⟩ := h.rows k hk
    rw [natsV_intsV] at ho
    obtain ⟨A', c', rfl, _, _, hI⟩ := own_ints ho
    refine ⟨A', c', ?_, ?_⟩
    · rw [Nat.zero_add, h.own.cellAt k (by omega), hx, rowI_rowsI, rowN_thinL hk]
    · rw [rowI_rowsI, rowN_thinL hk]; exact hI
theorem RtSt.more {w wr w3 w4 : World} {D : List (List Nat)} {v v' u : Value} {k : Nat} {xs : List Value} {tmp : Obj} (h : RtSt w wr D v k xs) (hb : Below wr.heap.size wr w3) (hu : w3.ownsRow wr.heap.size 3 1 u (thinRow D k).length (natsV (thinRow D k)))
    (hown : w4.ownsRow w.heap.size 23 1 v' (k + 1) (xs ++ [u])) (hg : (w3.alloc tmp).grownBy w4 v.ownBlock) : RtSt w w4 D v' (k + 1) (xs ++ [u]) := by
  have ho3 := own_lay h.own hb
  have hlen : xs.length = k := by have := h.own.1; omega
  have hB3 : Below w.heap.size w w3 := h.below.trans (hb.mono h.below.size)
  have key : ∀ {x : Value} {l : List Nat}, w3.ownsRow w.heap.size 3 1 x l.length (natsV l) → w4.ownsRow w.heap.size 3 1 x l.length (natsV l) := fun hm => (hm.alloc tmp).kept hg (own_apart (hm.alloc tmp) (ho3.alloc tmp) (by decide))
  refine ⟨hown, fun j hj => ?_, hB3.trans (((Below.refl _ w3).alloc hB3.size _).grown hg (by simp; have := hB3.size; omega) (fun j e => (ho3.lt j e).1))⟩
  rcases Nat.lt_or_ge j k with hjk | hjk
  · obtain ⟨vj, hx, hoj⟩ := h.rows j hjk
    refine ⟨vj, ?_, key (own_lay hoj hb)⟩
    rw [List.getElem?_append_left (by omega)]; exact hx
  · obtain rfl : j = k := by omega
    refine ⟨u, ?_, key (own_mono hu h.below.size)⟩
    rw [List.getElem?_append_right (by omega)]; simp [hlen]

set_option maxRecDepth 100000 in
set_option maxHeartbeats 1000000 in
theorem refthin_no (A : Option Addr) (c k : Nat) (R : List (List Int)) (hk : k = R.length) (hok : okB R = false) (w : World) (hl : R.length ≤ 1000) (hr : ∀ k, k < R.length → (rowI R k).length ≤ 1000) (hM : Mat w w.heap.size A R) :
    Calls Try.prog 33 #[.slice A k c] w fun e w' => e = .returned (.slice none 0 0) ∧ w = w' := by
  have H := Lib.hid (refright_no A c k R hk hok w hl hr hM)
  clear hk hok hr hM
  go_enter Try.func33, Try.ntmps33
  go_wp2_with (go_at_call 17; refine H.out.mono ?_; rintro e w' ⟨rfl, rfl⟩)
  go_ret
  exact ⟨rfl, rfl⟩

set_option maxRecDepth 100000 in
set_option maxHeartbeats 2000000 in
theorem refthin_yes (A : Option Addr) (c kD : Nat) (D : List (List Nat)) (hkD : kD = D.length) (hD : OkD D) (w : World) (hM : Mat w w.heap.size A (rowsI D)) :
    Calls Try.prog 33 #[.slice A kD c] w (ThinSays w D) := by
  obtain ⟨i0, hi, hz0, hz1, hz2⟩ := info_parts info3
  obtain ⟨i1, hi1, hy0, hy1, hy2⟩ := info_parts info23
  have hk256 : kD ≤ 256 := by have := hD.right.1; omega
  have HR := Lib.hid (refright_yes A c kD D hkD hD w hM)
  have HU := Lib.hid (ups_any A c kD D hkD hD w hM)
  have HM := Lib.hid hM
  have HDo := Lib.hid hD
  have HkD := Lib.hid hkD
  clear hM hD hkD
  go_enter Try.func33, Try.ntmps33
  go_wp2_with (go_at_call 17; refine HR.out.mono ?_; rintro e w' ⟨rfl, rfl⟩)
  refine HU.out.mono ?_
  rintro e w1 ⟨⟨A3, c3, rfl, hMb⟩, hB1⟩
  rw [← HkD.out] at hMb ⊢
  have HM1 := Lib.hid (Mat.next HM.out hB1)
  have HMb := Lib.hid hMb
  have HB1 := Lib.hid hB1
  clear hMb hB1 HM
  go_wp2_with fail
  go_loopw [4, 5] (fun v i wr => ∃ (k : Nat) (xs : List Value), k ≤ kD ∧ i = .int .i64 k ∧ RtSt w1 wr D v k xs) (fun _ i _ => kD - (intOf i).toNat)
  case atStart => exact ⟨0, [], Nat.zero_le _, rfl, ⟨World.ownsRow_nil _ _ _ _, fun j hj => by omega, Below.refl _ _⟩⟩
  case round =>
    obtain ⟨k, xs, hk, rfl, hS⟩ := hrel
    rename World => wr
    have HS := Lib.hid hS
    clear hS
    by_cases hlt : k < kD
    · have hlti : (k : Int) < (kD : Int) := by omega
      have hk0 : (0 : Int) ≤ (k : Int) := by omega
      obtain ⟨b, off, Ak, ck, rfl, hb, hcw, hI⟩ := HM1.out.at_ (k := k) (by rw [length_rowsI, ← HkD.out]; exact hlt)
      rw [rowI_rowsI, length_natsI] at hcw
      rw [rowI_rowsI] at hI
      have hrl := HDo.out.len k
      have hrm := fun d => HDo.out.right.2 k d
      have Hcc : Hid (∀ x, ccM D k x = (decide (x ∈ rowN D k) && !((rowN D k).any fun d => befB D x d))) := fun x => rfl
      have Hth := Lib.hid (thinRow_eq HDo.out.right (k := k) (by rw [← HkD.out]; exact hlt))
      obtain ⟨row, hrow⟩ : ∃ row, row = rowN D k := ⟨_, rfl⟩
      obtain ⟨cc, hcc⟩ : ∃ cc, cc = ccM D k := ⟨_, rfl⟩
      rw [← hrow] at hcw hI hrl hrm Hcc
      rw [← hcc] at Hcc Hth
      have Hcw : Hid (∀ W', Below wr.heap.size wr W' → W'.cell? ⟨b, off + k, none⟩ = some (.slice Ak row.length ck)) := fun W' hb' => (Below.cell (HS.out.below.trans (hb'.mono HS.out.below.size)) (p := ⟨b, off + k, none⟩) hb).trans hcw
      have HI : Hid (∀ W', Below wr.heap.size wr W' → Ints W' W'.heap.size Ak (natsI row)) := fun W' hb' => Ints.next hI (HS.out.below.trans (hb'.mono HS.out.below.size))
      have HMw : Hid (∀ W', Below wr.heap.size wr W' → MatB W' A3 kD (fun k y => befB D y k)) := fun W' hb' => MatB.next HMb.out (HS.out.below.trans (hb'.mono HS.out.below.size))
      have Hrm := Lib.hid hrm
      clear hI hrm hcw hb hrow hcc
      go_wp2_with fail
      go_loopw [6, 7] (fun v i w2 => ∃ q : Nat, q ≤ k ∧ i = .int .i64 q ∧ w2.ownsRow wr.heap.size 3 1 v (listM q cc).length (natsV (listM q cc)) ∧ Below wr.heap.size wr w2) (fun _ i _ => k - (intOf i).toNat)
      case atStart => exact ⟨0, Nat.zero_le _, rfl, World.ownsRow_nil _ _ _ _, Below.refl _ _⟩
      case round =>
        obtain ⟨q, hq, rfl, hown, hB2⟩ := hrel
        rename World => w2
        have Hown := Lib.hid hown
        have HB2 := Lib.hid hB2
        clear hown hB2
        by_cases hltq : q < k
        · have hltqi : (q : Int) < (k : Int) := by omega
          have hq0 : (0 : Int) ≤ (q : Int) := by omega
          have hqn : (q : Int) < (kD : Int) := by omega
          have hc := Hcw.out w2 HB2.out
          have hx := has_any Ak ck row.length (natsI row) (q : Int) w2 _ (length_natsI _).symm (by rw [length_natsI]; omega) (HI.out w2 HB2.out)
          have he : decide ((q : Int) ∈ natsI row) = decide (q ∈ row) := by simp [mem_natsI]
          rw [he] at hx
          have hs := listM_succ q cc
          have hcl := length_listM q cc
          have hsz := HB2.out.size
          have hcq := Hcc.out q
          clear he
          cases hin : decide (q ∈ row) with
          | false =>
            rw [hin] at hx hcq
            rw [Bool.false_and] at hcq
            rw [hcq] at hs
            simp only [Bool.false_eq_true, if_false, List.append_nil] at hs
            have Hs := Lib.hid hs
            have Hx := Lib.hid hx
            clear hs hx hcq hin
            go_wp2_with (go_at_call 34; refine Hx.out.mono ?_; rintro e w' ⟨rfl, rfl⟩)
            go_roundw
            case rel => exact ⟨q + 1, by omega, by go_num, by rw [Hs.out]; exact Hown.out, HB2.out⟩
            case measure => simp [intOf]; omega
          | true =>
            rw [hin] at hx hcq
            rw [Bool.true_and] at hcq
            have Hs := Lib.hid hs
            have Hx := Lib.hid hx
            have Hcq := Lib.hid hcq
            clear hs hx hcq hin
            go_wp2_with (go_at_call 34; refine Hx.out.mono ?_; rintro e w' ⟨rfl, rfl⟩)
            go_loop [8, 9] (fun v i => ∃ p : Nat, p ≤ row.length ∧ i = .int .i64 p ∧ v = .bool ((row.take p).any fun d => befB D q d)) (fun _ i => row.length - (intOf i).toNat)
            case atStart => exact ⟨0, Nat.zero_le _, rfl, by simp⟩
            case round =>
              obtain ⟨p, hp, rfl, rfl⟩ := hrel
              by_cases hltp : p < row.length
              · have hltpi : (p : Int) < (row.length : Int) := by omega
                have hp0 : (0 : Int) ≤ (p : Int) := by omega
                obtain ⟨bj, oj, rfl, hbj, hcj⟩ := (HI.out w2 HB2.out).at_ (k := p) (by rw [length_natsI]; exact hltp)
                rw [nth_nats row p hltp] at hcj
                have hdk := Hrm.out (el row p) (by rw [el_lt hltp]; exact List.getElem_mem _)
                have htk : (row.take (p + 1)).any (fun d => befB D q d) = ((row.take p).any (fun d => befB D q d) || befB D q (el row p)) := by
                  rw [take_el row p hltp]; simp
                obtain ⟨d, hd⟩ : ∃ d, d = el row p := ⟨_, rfl⟩
                rw [← hd] at hcj hdk htk
                have hdi : (d : Int) < (kD : Int) := by omega
                have hd0 : (0 : Int) ≤ (d : Int) := by omega
                obtain ⟨b3, o3, g3, rfl, hb3, hc3, hg3, hm3⟩ := HMw.out w2 HB2.out d (by omega)
                have hcell : w2.cell? ⟨g3, q, none⟩ = some (.bool (befB D (q : Int) (d : Int))) := hm3.cell (x := q) (by omega)
                obtain ⟨t, ht⟩ : ∃ t, t = (row.take p).any (fun d => befB D q d) := ⟨_, rfl⟩
                obtain ⟨r, hr⟩ : ∃ r, r = befB D q d := ⟨_, rfl⟩
                rw [← ht] at htk ⊢
                rw [← hr] at htk hcell
                have Htk := Lib.hid htk
                clear htk hd hm3 ht hr hbj hb3 hg3
                cases t with
                | true =>
                  rw [Bool.true_or] at Htk
                  go_wp2_with fail
                  go_round
                  case rel => exact ⟨p + 1, by omega, by go_num, by rw [Htk.out]⟩
                  case measure => simp [intOf]; omega
                | false =>
                  rw [Bool.false_or] at Htk
                  go_wp2_with fail
                  go_round
                  case rel => exact ⟨p + 1, by omega, by go_num, by rw [Htk.out]⟩
                  case measure => simp [intOf]; omega
              · obtain rfl : p = row.length := by omega
                rw [List.take_length]
                obtain ⟨t, ht⟩ : ∃ t, t = row.any (fun d => befB D q d) := ⟨_, rfl⟩
                rw [← ht] at Hcq ⊢
                clear ht
                cases t with
                | true =>
                  have Hs2 : Hid (listM (q + 1) cc = listM q cc) := by
                    unfold Hid; have h := Hs.out; rw [Hcq.out] at h; simpa using h
                  clear Hs Hcq
                  go_wp2_with fail
                  go_roundw
                  case rel => exact ⟨q + 1, by omega, by go_num, by rw [Hs2.out]; exact Hown.out, HB2.out⟩
                  case measure => simp [intOf]; omega
                | false =>
                  have Hs2 : Hid (listM (q + 1) cc = listM q cc ++ [q]) := by
                    unfold Hid; have h := Hs.out; rw [Hcq.out] at h; simpa using h
                  have hown := Hown.out
                  clear Hs Hcq
                  go_wp2_with (at_builtin; refine wpList_append_own _ rfl _ _ 23 rfl wr.heap.size 3 i0 (.int .i64 0) 1 8 Try.underlying23 hi hz0 hz1 hz2 rfl (by decide) _ _ _ rfl (hown.alloc _) ⟨w2.heap.size, 0, none⟩ 1 1 [.int .i64 (q : Int)] rfl rfl (cell_one_new _ _ _) (by simp [Value.oneCell']) (by unfold maxLen; omega) (by omega) (by simp; omega) ?_)
                  intro v' w4 hown' hgrow _
                  have hB4 : Below wr.heap.size wr w4 := HB2.out.trans ((((Below.refl _ w2).alloc hsz _)).grown hgrow (by simp; omega) (fun j e => (hown.lt j e).1))
                  have Hown4 := Lib.hid hown'
                  have HB4 := Lib.hid hB4
                  clear hown' hgrow hB4 hown
                  go_wp2_with fail
                  go_roundw
                  case rel => exact ⟨q + 1, by omega, by go_num, by rw [Hs2.out]; simpa [natsV] using Hown4.out, HB4.out⟩
                  case measure => simp [intOf]; omega
        · obtain rfl : q = k := by omega
          have hown := Hown.out
          rw [Hth.out] at hown
          have hown2 := hown
          rw [natsV_intsV] at hown2
          obtain ⟨A6, c6, rfl, _, _, _⟩ := own_ints hown2
          have HownT := Lib.hid hown
          have how := own_lay HS.out.own HB2.out
          have hsz : w1.heap.size ≤ w2.heap.size := Nat.le_trans HS.out.below.size HB2.out.size
          obtain ⟨m6, hm6⟩ : ∃ m6, m6 = (natsI (thinRow D q)).length := ⟨_, rfl⟩
          rw [← hm6] at HownT ⊢
          clear hown hown2 hm6
          go_wp2_with (at_builtin; refine wpList_append_own _ rfl _ _ 22 rfl w1.heap.size 23 i1 (.slice none 0 0) 1 24 Try.underlying22 hi1 hy0 hy1 hy2 rfl (by decide) _ _ _ rfl (how.alloc _) ⟨w2.heap.size, 0, none⟩ 1 1 [.slice A6 m6 c6] rfl rfl (cell_one_new _ _ _) (by simp [Value.oneCell']) (by unfold maxLen; omega) (by omega) (by simp; omega) ?_)
          intro v' w4 hown' hgrow _
          have HS4 := Lib.hid (HS.out.more HB2.out HownT.out hown' hgrow)
          clear hown' hgrow how
          go_wp2_with fail
          go_roundw
          case rel => exact ⟨q + 1, _, by omega, by go_num, HS4.out⟩
          case measure => simp [intOf]; omega
    · obtain rfl : k = kD := by omega
      have hS := HS.out
      rw [HkD.out] at hS
      obtain ⟨A', c', rfl, hMt⟩ := hS.mat
      have HX : Hid (ThinSays w D (.returned (.slice A' D.length c')) wr) := ⟨⟨A', c', rfl, hMt⟩, HB1.out.trans (HS.out.below.mono HB1.out.size)⟩
      clear hMt hS HS
      go_wp2_with fail
      go_ret
      exact HX.out
end Go.Proofs.Ytmekffcpbjmffaa
