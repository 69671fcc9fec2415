/- GraphLeast holds whatever comes in. Here: the walk of the law's text. -/
import Derived.Test.YtmekffcpbjmffaaYA
import Derived.Test.YtmekffcpbjmffaaWGraphReadies
namespace Go.Proofs.Ytmekffcpbjmffaa
open Go.RowKit

/-- those of some numbers that are numbers of deps -/
def onlyN (n : Nat) (l : List Int) : List Int := l.filter fun x => decide (0 ≤ x) && decide (x < (n : Int))
theorem onlyN_hit {n : Nat} {l : List Int} {x : Int} (h0 : 0 ≤ x) (h1 : x < (n : Int)) : onlyN n (l ++ [x]) = onlyN n l ++ [x] := by simp [onlyN, h0, h1]
theorem onlyN_miss {n : Nat} {l : List Int} {x : Int} (h : ¬ (0 ≤ x ∧ x < (n : Int))) : onlyN n (l ++ [x]) = onlyN n l := by
  unfold onlyN
  rw [List.filter_append]
  have : [x].filter (fun x => decide (0 ≤ x) && decide (x < (n : Int))) = [] := by
    rw [List.filter_eq_nil_iff]
    intro y hy hc
    rw [List.mem_singleton.1 hy] at hc
    simp only [Bool.and_eq_true, decide_eq_true_eq] at hc
    exact h hc
  rw [this, List.append_nil]
theorem onlyN_len (n : Nat) (l : List Int) : (onlyN n l).length ≤ l.length := List.length_filter_le _ _
theorem mem_onlyN {n : Nat} {l : List Int} {x : Int} : x ∈ onlyN n l ↔ x ∈ l ∧ 0 ≤ x ∧ x < (n : Int) := by simp [onlyN]
theorem length_intsV (l : List Int) : (intsV l).length = l.length := by simp [intsV]
theorem intsV_append (a b : List Int) : intsV a ++ intsV b = intsV (a ++ b) := by simp [intsV]

set_option maxRecDepth 100000 in
set_option maxHeartbeats 4000000 in
theorem GraphLeast.walk (a0 : Option Addr) (len0 cap0 : Nat) (R : List (List Int)) (A : Nat → Option Addr) (C : Nat → Nat) (a1 : Option Addr) (len1 cap1 : Nat) (zs : List Int) (a2 : Option Addr) (len2 cap2 : Nat) (zs2 : List Int) (W : World) (h0 : IsMat W a0 len0 cap0 R A C) (h1 : IsRow .i64 W a1 len1 cap1 zs) (h2 : IsRow .i64 W a2 len2 cap2 zs2) :
    Calls Try.prog 7 #[.slice a0 len0 cap0, .slice a1 len1 cap1, .slice a2 len2 cap2] W fun e W' => e = .returned (.bool true) ∧ Below W.heap.size W W' := by
  have HF := Lib.hid (few_any a0 len0 cap0 R A C W h0)
  obtain ⟨l, hl, hle, hI, hsome⟩ := some_row h1
  obtain ⟨k, hk, hke, hI2, hsome2⟩ := some_row h2
  have hll : l.length ≤ len1 := by omega
  have HS := Lib.hid hsome
  have HS2 := Lib.hid hsome2
  have HI := Lib.hid hI
  have HI2 := Lib.hid hI2
  have hl60 : l.length ≤ 60 := by omega
  have hk60 : k.length ≤ 60 := by omega
  obtain ⟨hf1, hf2⟩ := few_bound R
  have Hf2 := Lib.hid hf2
  clear hsome hsome2 hI hI2 hl hle hk hke hf2 h0 h1 h2
  obtain ⟨F, hF⟩ : ∃ F, F = fewR R := ⟨_, rfl⟩
  unfold FewSays at HF
  rw [← hF] at HF hf1 Hf2
  clear hF
  go_enter Try.func7, Try.ntmps7
  go_wp2_with fail
  refine HF.out.mono ?_
  rintro e w1 ⟨Ad, cd, rfl, hM1, hB1⟩
  have Hmi : Hid (MII w1 Ad F a1 l a2 k) := ⟨hM1, HI.out.next hB1, HI2.out.next hB1⟩
  have HB1 := Lib.hid hB1
  clear hM1 hB1
  cases hok : okB F with
  | false =>
    have Hok := Lib.hid hok
    clear hok
    go_wp2_with (first
      | (go_at_call 16; refine (right_no Ad cd _ F rfl Hok.out w1 hf1 Hf2.out Hmi.out.1).mono ?_; rintro e w' ⟨rfl, rfl⟩)
      | (go_at_call 14; ((with_reducible refine (HS.out _).mono ?_); rintro e w' ⟨rfl, rfl⟩))
      | (go_at_call 15; refine (live_any _).mono ?_; rintro e w2 ⟨rfl, hB2⟩; replace Hmi := Lib.hid (Hmi.out.next hB2); have HB2 := Lib.hid hB2; clear hB2)
      | (go_at_call 21; refine (close_no Ad cd _ F rfl Hok.out _ w2 hf1 Hf2.out Hmi.out.1).mono ?_; rintro e w' ⟨rfl, rfl⟩))
    go_ret
    exact ⟨rfl, HB1.out.trans (HB2.out.mono HB1.out.size)⟩
  | true =>
    obtain ⟨D, hD, hOk⟩ := okB_out hok
    subst hD
    have Hok := Lib.hid hOk
    have hD256 := hOk.right.1
    have hDl : (rowsI D).length = D.length := length_rowsI D
    have HDl := Lib.hid hDl
    obtain ⟨n, hn⟩ : ∃ n, n = (rowsI D).length := ⟨_, rfl⟩
    have Hn := Lib.hid hn
    have hnD : n = D.length := by rw [hn, hDl]
    have HnD := Lib.hid hnD
    have hn256 : n ≤ 256 := by omega
    rw [← hn]
    obtain ⟨i0, hi, hz0, hz1, hz2⟩ := info_parts info3
    clear hok hOk hDl hn hnD hD256 hf1
    go_wp2_with (go_at_call 16; refine (right_yes Ad cd _ D HnD.out Hok.out w1 Hmi.out.1).mono ?_; rintro e w' ⟨rfl, rfl⟩)
    go_loopw [8, 9] (fun v i wr => ∃ p : Nat, p ≤ l.length ∧ i = .int .i64 p ∧ wr.ownsRow w1.heap.size 3 1 v (onlyN n (l.take p)).length (intsV (onlyN n (l.take p))) ∧ Below w1.heap.size w1 wr) (fun _ i _ => l.length - (intOf i).toNat)
    case atStart => exact ⟨0, Nat.zero_le _, rfl, World.ownsRow_nil _ _ _ _, Below.refl _ _⟩
    case round =>
      obtain ⟨p, hp, rfl, hown, hB⟩ := hrel
      rename World => wr
      by_cases hlt : p < l.length
      · have hlti : (p : Int) < (l.length : Int) := by omega
        have hlt1 : (p : Int) < (len1 : Int) := by omega
        have hp0 : (0 : Int) ≤ (p : Int) := by omega
        obtain ⟨b, off, rfl, hb, hcw⟩ := Hmi.out.2.1.at_ hlt
        have hc := (Below.cell hB (p := ⟨b, off + p, none⟩) hb).trans hcw
        have Htk := Lib.hid (take_nth l p hlt)
        have hol := onlyN_len n (l.take p)
        rw [List.length_take] at hol
        have hsz := hB.size
        obtain ⟨x, hx⟩ : ∃ x, x = nth l p := ⟨_, rfl⟩
        rw [← hx] at hc Htk
        clear hx hcw
        by_cases hx0 : 0 ≤ x
        · by_cases hxn : x < (n : Int)
          · have Hon := Lib.hid (onlyN_hit (l := l.take p) hx0 hxn)
            go_wp2_with (first
              | (go_at_call 14; ((with_reducible refine (HS.out _).mono ?_); rintro e w' ⟨rfl, rfl⟩))
              | (at_builtin; refine wpList_append_own _ rfl _ _ 23 rfl w1.heap.size 3 i0 (.int .i64 0) 1 8 Try.underlying23 hi hz0 hz1 hz2 rfl (by decide) _ _ _ rfl (hown.alloc _) ⟨wr.heap.size, 0, none⟩ 1 1 [.int .i64 x] rfl rfl (cell_one_new _ _ _) (by simp [Value.oneCell']) (by unfold maxLen; omega) (by omega) (by simp; omega) ?_))
            intro v' w3 hown' hgrow _
            have hB1 : Below w1.heap.size w1 w3 := hB.trans ((((Below.refl _ wr).alloc hsz _)).grown hgrow (by simp; omega) (fun j e => (hown.lt j e).1))
            go_wp2_with fail
            go_roundw
            case rel => exact ⟨p + 1, by omega, by go_num, by rw [Htk.out, Hon.out]; simpa [intsV] using hown', hB1⟩
            case measure => simp [intOf]; omega
          · have Hon := Lib.hid (onlyN_miss (n := n) (l := l.take p) (x := x) (fun h => hxn h.2))
            go_wp2_with (go_at_call 14; ((with_reducible refine (HS.out _).mono ?_); rintro e w' ⟨rfl, rfl⟩))
            go_roundw
            case rel => exact ⟨p + 1, by omega, by go_num, by rw [Htk.out, Hon.out]; exact hown, hB⟩
            case measure => simp [intOf]; omega
        · have Hon := Lib.hid (onlyN_miss (n := n) (l := l.take p) (x := x) (fun h => hx0 h.1))
          have hx1 : x < 0 := by omega
          go_wp2_with (go_at_call 14; ((with_reducible refine (HS.out _).mono ?_); rintro e w' ⟨rfl, rfl⟩))
          go_roundw
          case rel => exact ⟨p + 1, by omega, by go_num, by rw [Htk.out, Hon.out]; exact hown, hB⟩
          case measure => simp [intOf]; omega
      · have hlti : ¬ (p : Int) < (l.length : Int) := by omega
        obtain rfl : p = l.length := by omega
        rw [List.take_length] at hown
        have hsl := onlyN_len n l
        have hsD : ∀ x ∈ onlyN n l, 0 ≤ x ∧ x < (n : Int) := fun x hx => (mem_onlyN.1 hx).2
        have HsD := Lib.hid hsD
        obtain ⟨s, hs⟩ : ∃ s, s = onlyN n l := ⟨_, rfl⟩
        rw [← hs] at hown hsl HsD
        obtain ⟨A8, c8, rfl, _, _, hI8⟩ := own_ints hown
        replace Hmi := Lib.hid (Hmi.out.next hB)
        have HI8 := Lib.hid hI8
        have HB := Lib.hid (HB1.out.trans (hB.mono HB1.out.size))
        clear hown hB hs hsD hI8
        go_wp2_with (first
          | (go_at_call 14; ((with_reducible refine (HS.out _).mono ?_); rintro e w' ⟨rfl, rfl⟩)))
        refine (close_at Ad cd _ D HnD.out Hok.out A8 c8 _ s rfl (by omega) wr Hmi.out.1 HI8.out).mono ?_
        rintro e w3 ⟨A10, c10, rfl, hI10, hB3⟩
        have HI10 := Lib.hid hI10
        have HI8b := Lib.hid (HI8.out.next hB3)
        replace Hmi := Lib.hid (Hmi.out.next hB3)
        have HB3 := Lib.hid (HB.out.trans (hB3.mono HB.out.size))
        clear hI10 hB3
        have hcl := length_closeL D Hok.out s
        have hcc : (closeL D (s ++ k)).length ≤ 256 := length_closeL D Hok.out (s ++ k)
        have hsub : ∀ x ∈ closeL D s, x ∈ closeL D (s ++ k) := fun x hx => close_sub Hok.out.right (fun y hy => List.mem_append_left _ hy) hx
        have hhas : ∀ x ∈ s, x ∈ natsI (closeL D s) := fun x hx => by
          obtain ⟨h1, h2⟩ := HsD.out x hx
          obtain ⟨y, rfl⟩ := Int.eq_ofNat_of_zero_le h1
          exact mem_natsI.2 (close_has Hok.out.right (by have := HnD.out; omega) hx)
        have hclc := closedB_yes (closed_close Hok.out.right s)
        have hclo := closedB_yes (closed_close Hok.out.right (s ++ k))
        have hcc2 := close_close Hok.out.right s
        obtain ⟨cl, hcle⟩ : ∃ cl, cl = closeL D s := ⟨_, rfl⟩
        obtain ⟨ol, hole⟩ : ∃ ol, ol = closeL D (s ++ k) := ⟨_, rfl⟩
        rw [← hcle] at hcl hsub hhas hclc hcc2 HI10
        rw [← hole] at hcc hsub hclo
        have Hcle := Lib.hid hcle
        have Hole := Lib.hid hole
        have Hsub := Lib.hid hsub
        have Hhas := Lib.hid hhas
        have Hclc := Lib.hid hclc
        have Hclo := Lib.hid hclo
        have Hcc2 := Lib.hid hcc2
        have hw4 : Below w3.heap.size w3 (w3.alloc (.cells #[] 3)) := (Below.refl _ _).alloc (Nat.le_refl _) _
        have hI8c : Ints (w3.alloc (.cells #[] 3)) (w3.alloc (.cells #[] 3)).heap.size A8 s := HI8b.out.next hw4
        have HI8c := Lib.hid hI8c
        rw [← hcle]
        clear hcle hole hsub hhas hclc hclo hcc2 hI8c hw4
        go_wp2_with (first
          | (at_builtin; refine wpList_append_ints rfl (.tmp 60) (.tmp 61) rfl w3.heap.size _ 0 [] rfl (own_empty_ints w3) _ A8 s c8 s.length rfl rfl HI8c.out (by omega) (by simp) ?_; intro v5 w5 hown5 hgrow5; rw [Nat.zero_add, List.nil_append] at hown5; have hB5 := below_copy_ints hgrow5; have HB5 := Lib.hid hB5; have HI5k := Lib.hid (Hmi.out.2.2.next hB5); clear hB5 hgrow5)
          | (go_at_call 14; ((with_reducible refine (HS2.out _).mono ?_); rintro e w' ⟨rfl, rfl⟩))
          | (at_builtin; refine wpList_append_ints rfl (.tmp 62) (.tmp 64) rfl w3.heap.size _ s.length (intsV s) rfl hown5 _ a2 k cap2 k.length rfl rfl HI5k.out (by omega) (by have := HB5.out.size; omega) ?_; intro v6 w6 hown6 hgrow6))
        rw [intsV_append] at hown6
        have hB6 : Below w3.heap.size w3 w6 := HB5.out.grown hgrow6 HB5.out.size (fun j e => by obtain ⟨h1, _⟩ := hown5.lt j e; exact h1)
        have hn6 : s.length + k.length = (s ++ k).length := by simp
        rw [hn6] at hown6
        obtain ⟨A6, c6, rfl, _, _, hI6⟩ := own_ints hown6
        replace Hmi := Lib.hid (Hmi.out.next hB6)
        have HI6 := Lib.hid hI6
        have HI10b := Lib.hid (HI10.out.next hB6)
        have HI8d := Lib.hid (HI8b.out.next hB6)
        have HB6 := Lib.hid (HB3.out.trans (hB6.mono HB3.out.size))
        have hkl : (s ++ k).length ≤ 100000 := by rw [List.length_append]; omega
        have Hkl := Lib.hid hkl
        clear hown6 hB6 hn6 hI6 hgrow6 hown5 hkl
        go_wp2_with fail
        refine (close_at Ad cd _ D HnD.out Hok.out A6 c6 _ (s ++ k) rfl Hkl.out w6 Hmi.out.1 HI6.out).mono ?_
        rintro e w7 ⟨A11, c11, rfl, hI11, hB7⟩
        rw [← Hole.out] at hI11
        have HI11 := Lib.hid hI11
        have HI10c := Lib.hid (HI10b.out.next hB7)
        have HI8e := Lib.hid (HI8d.out.next hB7)
        replace Hmi := Lib.hid (Hmi.out.next hB7)
        have HB7 := Lib.hid (HB6.out.trans (hB7.mono HB6.out.size))
        rw [← Hole.out]
        clear hI11 hB7
        go_wp2_with fail
        go_loop [12] (fun i => ∃ p : Nat, p ≤ s.length ∧ i = .int .i64 p) (fun i => s.length - (intOf i).toNat)
        case atStart => exact ⟨0, Nat.zero_le _, rfl⟩
        case round =>
          obtain ⟨p, hp, rfl⟩ := hrel
          by_cases hlt2 : p < s.length
          · have hlti2 : (p : Int) < (s.length : Int) := by omega
            have hp0 : (0 : Int) ≤ (p : Int) := by omega
            obtain ⟨b, off, rfl, hb, hc⟩ := HI8e.out.at_ hlt2
            have hmem := Hhas.out (nth s p) (by rw [nth_lt hlt2]; exact List.getElem_mem _)
            obtain ⟨x, hx⟩ : ∃ x, x = nth s p := ⟨_, rfl⟩
            rw [← hx] at hc hmem
            have Hhx := Lib.hid (has_any A10 c10 cl.length (natsI cl) x w7 _ (length_natsI _).symm (by rw [length_natsI]; omega) HI10c.out)
            rw [decide_eq_true hmem] at Hhx
            clear hx hmem
            go_wp2_with (go_at_call 34; refine Hhx.out.mono ?_; rintro e w' ⟨rfl, rfl⟩)
            go_round
            case rel => exact ⟨p + 1, by omega, by go_num⟩
            case measure => simp [intOf]; omega
          · have hlti2 : ¬ (p : Int) < (s.length : Int) := by omega
            obtain rfl : p = s.length := by omega
            go_wp2_with fail
            go_loop [13] (fun i => ∃ p : Nat, p ≤ cl.length ∧ i = .int .i64 p) (fun i => cl.length - (intOf i).toNat)
            case atStart => exact ⟨0, Nat.zero_le _, rfl⟩
            case round =>
              obtain ⟨p, hp, rfl⟩ := hrel
              by_cases hlt3 : p < cl.length
              · have hlti3 : (p : Int) < (cl.length : Int) := by omega
                have hp0 : (0 : Int) ≤ (p : Int) := by omega
                obtain ⟨b, off, rfl, hb, hc⟩ := HI10c.out.at_ (k := p) (by rw [length_natsI]; exact hlt3)
                rw [nth_nats cl p hlt3] at hc
                have hmem : ((el cl p : Nat) : Int) ∈ natsI ol := mem_natsI.2 (Hsub.out _ (by rw [el_lt hlt3]; exact List.getElem_mem _))
                obtain ⟨x, hx⟩ : ∃ x, x = el cl p := ⟨_, rfl⟩
                rw [← hx] at hc hmem
                have Hhx := Lib.hid (has_any A11 c11 ol.length (natsI ol) (x : Int) w7 _ (length_natsI _).symm (by rw [length_natsI]; omega) HI11.out)
                rw [decide_eq_true hmem] at Hhx
                clear hx hmem
                go_wp2_with (go_at_call 34; refine Hhx.out.mono ?_; rintro e w' ⟨rfl, rfl⟩)
                go_round
                case rel => exact ⟨p + 1, by omega, by go_num⟩
                case measure => simp [intOf]; omega
              · have hlti3 : ¬ (p : Int) < (cl.length : Int) := by omega
                obtain rfl : p = cl.length := by omega
                have Hme : Hid (MII w7 Ad (rowsI D) A10 (natsI cl) A11 (natsI ol)) := ⟨Hmi.out.1, HI10c.out, HI11.out⟩
                have Hlc : Hid ((natsI cl).length ≤ 100000) := by unfold Hid; rw [length_natsI]; omega
                have Hlo : Hid ((natsI ol).length ≤ 100000) := by unfold Hid; rw [length_natsI]; omega
                have Hlc0 := Lib.hid (length_natsI cl).symm
                have Hlo0 := Lib.hid (length_natsI ol).symm
                have Hclo2 : Hid (closedB D (natsI ol) = true) := Hclo.out
                go_wp2_with (first
                  | (go_at_call 15; refine (live_any _).mono ?_; rintro e w8 ⟨rfl, hB8⟩; replace Hme := Lib.hid (Hme.out.next hB8); have HB8 := Lib.hid (HB7.out.trans (hB8.mono HB7.out.size)); clear hB8)
                  | (go_at_call 18; have hx := closed_yes Ad cd n D HnD.out Hok.out A10 c10 cl.length (natsI cl) Hlc0.out Hlc.out w8 Hme.out.1 Hme.out.2.1; ((with_reducible refine hx.mono ?_); clear hx; rintro e w9 ⟨rfl, hB9⟩; rw [Hclc.out]; replace Hme := Lib.hid (Hme.out.next hB9); have HB9 := Lib.hid (HB8.out.trans (hB9.mono HB8.out.size)); clear hB9))
                  | (go_at_call 18; have hx := closed_yes Ad cd n D HnD.out Hok.out A11 c11 ol.length (natsI ol) Hlo0.out Hlo.out w9 Hme.out.1 Hme.out.2.2; ((with_reducible refine hx.mono ?_); clear hx; rintro e wa ⟨rfl, hBa⟩; rw [Hclo2.out]; replace Hme := Lib.hid (Hme.out.next hBa); have HBa := Lib.hid (HB9.out.trans (hBa.mono HB9.out.size)); clear hBa))
                  | (go_at_call 21; refine (close_at Ad cd n D HnD.out Hok.out A10 c10 cl.length (natsI cl) Hlc0.out Hlc.out wa Hme.out.1 Hme.out.2.1).mono ?_; rintro e wb ⟨Ab, cb, rfl, hIb, hBb⟩; rw [Hcc2.out] at hIb ⊢; replace Hme := Lib.hid (Hme.out.next hBb); have HBb := Lib.hid (HBa.out.trans (hBb.mono HBa.out.size)); have HIb := Lib.hid hIb; clear hBb hIb)
                  | (go_at_call 20; refine (same_any Ab A10 cb c10 _ _ (natsI cl) wb _ _ Hlc0.out Hlc0.out HIb.out Hme.out.2.1 Hlc.out).mono ?_; rintro e wc ⟨rfl, hq⟩; have HBc := Lib.hid (HBb.out.trans (hq.belowR)); clear hq))
                go_ret
                exact ⟨rfl, HBc.out⟩
end Go.Proofs.Ytmekffcpbjmffaa
