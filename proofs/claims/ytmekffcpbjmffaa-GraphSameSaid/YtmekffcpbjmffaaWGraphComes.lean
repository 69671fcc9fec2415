/- GraphComes holds whatever comes in. Here: the walk of the law's text. -/
import Derived.Test.YtmekffcpbjmffaaYB
import Derived.Test.YtmekffcpbjmffaaWGraphReadies
namespace Go.Proofs.Ytmekffcpbjmffaa
open Go.RowKit

theorem intsV_app (a b : List Int) : intsV a ++ intsV b = intsV (a ++ b) := by simp [intsV]

set_option maxRecDepth 100000 in
set_option maxHeartbeats 4000000 in
theorem GraphComes.walk (a0 : Option Addr) (len0 cap0 : Nat) (R : List (List Int)) (A : Nat → Option Addr) (C : Nat → Nat) (a1 : Option Addr) (len1 cap1 : Nat) (zs : List Int) (a2 : Option Addr) (len2 cap2 : Nat) (zs2 : List Int) (W : World) (h0 : IsMat W a0 len0 cap0 R A C) (h1 : IsRow .i64 W a1 len1 cap1 zs) (h2 : IsRow .i64 W a2 len2 cap2 zs2) :
    Calls Try.prog 8 #[.slice a0 len0 cap0, .slice a1 len1 cap1, .slice a2 len2 cap2] W fun e W' => e = .returned (.bool true) ∧ Below W.heap.size W W' := by
  have HF := Lib.hid (few_any a0 len0 cap0 R A C W h0)
  obtain ⟨l, hl, hle, hI, hsome⟩ := some_row h1
  obtain ⟨k, hk, hke, hI2, hsome2⟩ := some_row h2
  have hkk : k.length ≤ len2 := by omega
  have HS := Lib.hid hsome
  have HS2 := Lib.hid hsome2
  have HI := Lib.hid hI
  have HI2 := Lib.hid hI2
  have hl60 : l.length ≤ 60 := by omega
  have hk60 : k.length ≤ 60 := by omega
  obtain ⟨hf1, hf2⟩ := few_bound R
  have Hf2 := Lib.hid hf2
  clear hsome hsome2 hI hI2 hl hle hk hke hf2 h0 h1 h2
  obtain ⟨F, hF⟩ : ∃ F, F = fewR R := ⟨_, rfl⟩
  unfold FewSays at HF
  rw [← hF] at HF hf1 Hf2
  clear hF
  go_enter Try.func8, Try.ntmps8
  go_wp2_with fail
  refine HF.out.mono ?_
  rintro e w1 ⟨Ad, cd, rfl, hM1, hB1⟩
  have Hmi : Hid (MII w1 Ad F a1 l a2 k) := ⟨hM1, HI.out.next hB1, HI2.out.next hB1⟩
  have HB1 := Lib.hid hB1
  clear hM1 hB1
  cases hok : okB F with
  | false =>
    have Hok := Lib.hid hok
    clear hok
    go_wp2_with (first
      | (go_at_call 16; refine (right_no Ad cd _ F rfl Hok.out w1 hf1 Hf2.out Hmi.out.1).mono ?_; rintro e w' ⟨rfl, rfl⟩)
      | (go_at_call 15; refine (live_any _).mono ?_; rintro e w2 ⟨rfl, hB2⟩; replace Hmi := Lib.hid (Hmi.out.next hB2); have HB2 := Lib.hid (HB1.out.trans (hB2.mono HB1.out.size)); clear hB2)
      | (go_at_call 23; refine (ready_no Ad cd _ F rfl Hok.out _ _ w2 hf1 Hf2.out Hmi.out.1).mono ?_; rintro e w3 ⟨rfl, hB3⟩; have HB3 := Lib.hid (HB2.out.trans (hB3.mono HB2.out.size)); clear hB3))
    go_ret
    exact ⟨rfl, HB3.out⟩
  | true =>
    obtain ⟨D, hD, hOk⟩ := okB_out hok
    subst hD
    have Hok := Lib.hid hOk
    have hD256 := hOk.right.1
    have hDl : (rowsI D).length = D.length := length_rowsI D
    obtain ⟨n, hn⟩ : ∃ n, n = (rowsI D).length := ⟨_, rfl⟩
    have hnD : n = D.length := by rw [hn, hDl]
    have HnD := Lib.hid hnD
    have hn256 : n ≤ 256 := by omega
    rw [← hn]
    clear hok hOk hDl hn hnD hD256 hf1
    go_wp2_with (first
      | (go_at_call 16; refine (right_yes Ad cd _ D HnD.out Hok.out w1 Hmi.out.1).mono ?_; rintro e w' ⟨rfl, rfl⟩)
      | (go_at_call 14; ((with_reducible refine (HS.out _).mono ?_); rintro e w' ⟨rfl, rfl⟩)))
    refine (close_at Ad cd n D HnD.out Hok.out a1 cap1 l.length l rfl (by omega) w1 Hmi.out.1 Hmi.out.2.1).mono ?_
    rintro e w3 ⟨A8, c8, rfl, hI8, hB3⟩
    have hwl := length_closeL D Hok.out l
    have hrl := readyL_small D Hok.out (natsI (closeL D l)) k
    have Hcr := Lib.hid (closedB_yes (closed_ready Hok.out.right l k))
    have Hnm := Lib.hid (fun (x : Nat) => @not_more D Hok.out.right l k x)
    obtain ⟨wa, hwa⟩ : ∃ wa, wa = closeL D l := ⟨_, rfl⟩
    rw [← hwa] at hI8 hwl hrl Hcr Hnm
    rw [← hwa]
    obtain ⟨no, hno⟩ : ∃ no, no = readyL D (natsI wa) k := ⟨_, rfl⟩
    have Hno := Lib.hid hno
    rw [← hno] at hrl Hcr Hnm
    have hlw : (natsI wa).length = wa.length := length_natsI wa
    have hln : (natsI no).length = no.length := length_natsI no
    have Hlw := Lib.hid hlw.symm
    have Hln := Lib.hid hln.symm
    replace Hmi := Lib.hid (Hmi.out.next hB3)
    have HI8 := Lib.hid hI8
    have HB3 := Lib.hid (HB1.out.trans (hB3.mono HB1.out.size))
    clear hwa hno hlw hln hI8 hB3
    go_wp2_with (go_at_call 14; ((with_reducible refine (HS2.out _).mono ?_); rintro e w' ⟨rfl, rfl⟩))
    refine (ready_yes Ad cd n D HnD.out Hok.out A8 c8 wa.length (natsI wa) Hlw.out (by rw [← Hlw.out]; omega) a2 cap2 k.length k rfl (by omega) w3 Hmi.out.1 HI8.out Hmi.out.2.2).mono ?_
    rintro e w4 ⟨A9, c9, rfl, hI9, hB4⟩
    rw [← Hno.out] at hI9
    rw [← Hno.out]
    replace Hmi := Lib.hid (Hmi.out.next hB4)
    have HI9 := Lib.hid hI9
    have HI8b := Lib.hid (HI8.out.next hB4)
    have HB4 := Lib.hid (HB3.out.trans (hB4.mono HB3.out.size))
    have hw4 : Below w4.heap.size w4 (w4.alloc (.cells #[] 3)) := (Below.refl _ _).alloc (Nat.le_refl _) _
    have HI8c := Lib.hid (HI8b.out.next hw4)
    obtain ⟨al, hal⟩ : ∃ al, al = natsI wa ++ natsI no := ⟨_, rfl⟩
    have hal1000 : al.length ≤ 1000 := by rw [hal, List.length_append, ← Hlw.out, ← Hln.out]; omega
    have Hal := Lib.hid hal
    rw [← hal] at Hcr Hnm
    clear hI9 hB4 hw4 hal
    go_wp2_with (first
      | (at_builtin; refine wpList_append_ints rfl (.tmp 34) (.tmp 35) rfl w4.heap.size _ 0 [] rfl (own_empty_ints w4) _ A8 (natsI wa) c8 wa.length Hlw.out rfl HI8c.out (by omega) (by simp) ?_; intro v5 w5 hown5 hgrow5; rw [Nat.zero_add, List.nil_append] at hown5; have hB5 := below_copy_ints hgrow5; have HB5 := Lib.hid hB5; have HI9b := Lib.hid (HI9.out.next hB5); clear hB5 hgrow5)
      | (at_builtin; refine wpList_append_ints rfl (.tmp 36) (.tmp 37) rfl w4.heap.size _ wa.length (intsV (natsI wa)) rfl hown5 _ A9 (natsI no) c9 no.length Hln.out rfl HI9b.out (by omega) (by have := HB5.out.size; omega) ?_; intro v6 w6 hown6 hgrow6; rw [intsV_app, ← Hal.out] at hown6; have hB6 : Below w4.heap.size w4 w6 := HB5.out.grown hgrow6 HB5.out.size (fun j e => by obtain ⟨h1, _⟩ := hown5.lt j e; exact h1); have HB6 := Lib.hid (HB4.out.trans (hB6.mono HB4.out.size)); replace Hmi := Lib.hid (Hmi.out.next hB6); obtain ⟨A6, c6, rfl, _, _, hI6⟩ := own_ints hown6; have HI6 := Lib.hid hI6; clear hB6 hown6 hgrow6 hown5 hI6))
    refine (closed_yes Ad cd n D HnD.out Hok.out A6 c6 al.length al rfl (by omega) w6 Hmi.out.1 HI6.out).mono ?_
    rintro e w7 ⟨rfl, hB7⟩
    rw [Hcr.out]
    have Hme : Hid (MII w7 Ad (rowsI D) A6 al a2 k) := ⟨Hmi.out.1.next hB7, HI6.out.next hB7, Hmi.out.2.2.next hB7⟩
    have HB7 := Lib.hid (HB6.out.trans (hB7.mono HB6.out.size))
    clear hB7
    go_wp2_with fail
    go_loopw [11] (fun i wr => ∃ p : Nat, p ≤ k.length ∧ i = .int .i64 p ∧ MII wr Ad (rowsI D) A6 al a2 k ∧ Below W.heap.size W wr) (fun i _ => k.length - (intOf i).toNat)
    case atStart => exact ⟨0, Nat.zero_le _, rfl, Hme.out, HB7.out⟩
    case round =>
      obtain ⟨p, hp, rfl, hmr, hBr⟩ := hrel
      rename World => wr
      have Hmr := Lib.hid hmr
      have HBr := Lib.hid hBr
      clear hmr hBr
      by_cases hlt : p < k.length
      · have hlti : (p : Int) < (k.length : Int) := by omega
        have hlt1 : (p : Int) < (len2 : Int) := by omega
        have hp0 : (0 : Int) ≤ (p : Int) := by omega
        obtain ⟨b, off, rfl, hb, hc⟩ := Hmr.out.2.2.at_ hlt
        have hmk : nth k p ∈ k := by rw [nth_lt hlt]; exact List.getElem_mem _
        obtain ⟨x, hx⟩ : ∃ x, x = nth k p := ⟨_, rfl⟩
        rw [← hx] at hc hmk
        have Hmk := Lib.hid hmk
        clear hx hmk
        by_cases hx0 : x < 0
        · go_wp2_with (go_at_call 14; ((with_reducible refine (HS2.out _).mono ?_); rintro e w' ⟨rfl, rfl⟩))
          go_roundw
          case rel => exact ⟨p + 1, by omega, by go_num, Hmr.out, HBr.out⟩
          case measure => simp [intOf]; omega
        · have hx0' : 0 ≤ x := by omega
          by_cases hxn : (n : Int) ≤ x
          · go_wp2_with (go_at_call 14; ((with_reducible refine (HS2.out _).mono ?_); rintro e w' ⟨rfl, rfl⟩))
            go_roundw
            case rel => exact ⟨p + 1, by omega, by go_num, Hmr.out, HBr.out⟩
            case measure => simp [intOf]; omega
          · have hxn' : x < (n : Int) := by omega
            have Hhx := Lib.hid (has_any A6 c6 al.length al x wr _ rfl (by omega) Hmr.out.2.1)
            by_cases hin : x ∈ al
            · rw [decide_eq_true hin] at Hhx
              clear hin
              go_wp2_with (first
                | (go_at_call 14; ((with_reducible refine (HS2.out _).mono ?_); rintro e w' ⟨rfl, rfl⟩))
                | (go_at_call 34; refine Hhx.out.mono ?_; rintro e w' ⟨rfl, rfl⟩))
              go_roundw
              case rel => exact ⟨p + 1, by omega, by go_num, Hmr.out, HBr.out⟩
              case measure => simp [intOf]; omega
            · rw [decide_eq_false hin] at Hhx
              have Hf : Hid (closedB D (al ++ [x]) = false) := by
                obtain ⟨y, rfl⟩ := Int.eq_ofNat_of_zero_le hx0'
                have := HnD.out
                exact closedB_no (Hnm.out y (by omega) Hmk.out hin)
              clear hin
              have hwr : Below wr.heap.size wr (wr.alloc (.cells #[] 3)) := (Below.refl _ _).alloc (Nat.le_refl _) _
              have HIr := Lib.hid (Hmr.out.2.1.next hwr)
              have Hl1 : Hid ((al ++ [x]).length ≤ 100000) := by unfold Hid; simp; omega
              obtain ⟨ax, hax⟩ : ∃ ax, ax = al ++ [x] := ⟨_, rfl⟩
              have Hax := Lib.hid hax
              rw [← hax] at Hf Hl1
              clear hwr hax
              go_wp2_with (first
                | (go_at_call 14; ((with_reducible refine (HS2.out _).mono ?_); rintro e w' ⟨rfl, rfl⟩))
                | (go_at_call 34; refine Hhx.out.mono ?_; rintro e w' ⟨rfl, rfl⟩)
                | (at_builtin; refine wpList_append_ints rfl (.tmp 68) (.tmp 69) rfl wr.heap.size _ 0 [] rfl (own_empty_ints wr) _ A6 al c6 al.length rfl rfl HIr.out (by omega) (by simp) ?_; intro v8 w8 hown8 hgrow8; rw [Nat.zero_add, List.nil_append] at hown8; have hB8 := below_copy_ints hgrow8; have HB8 := Lib.hid hB8; clear hB8 hgrow8)
                | (at_builtin; refine wpList_append_ints rfl (.tmp 70) (.tmp 72) rfl wr.heap.size _ al.length (intsV al) rfl (hown8.alloc _) _ (some ⟨w8.heap.size, 0, none⟩) [x] 1 1 rfl rfl (Ints.one w8 x (w8.heap.size + 1) (by omega)) (by omega) (by have := HB8.out.size; simp; omega) ?_; intro v9 w9 hown9 hgrow9; rw [intsV_app, ← Hax.out] at hown9; have hB9 : Below wr.heap.size wr w9 := (HB8.out.alloc HB8.out.size (.cells #[.int .i64 x] 3)).grown hgrow9 (by have := HB8.out.size; simp; omega) (fun j e => by obtain ⟨h1, _⟩ := hown8.lt j e; exact h1); have HB9 := Lib.hid (HBr.out.trans (hB9.mono HBr.out.size)); have Hm9 := Lib.hid (Hmr.out.next hB9); obtain ⟨A9, c9, rfl, _, _, hI9⟩ := own_ints hown9; have HI9 := Lib.hid hI9; clear hB9 hown9 hgrow9 hown8 hI9))
              refine (closed_yes Ad cd n D HnD.out Hok.out A9 c9 ax.length ax rfl Hl1.out w9 Hm9.out.1 HI9.out).mono ?_
              rintro e wa2 ⟨rfl, hBa⟩
              rw [Hf.out]
              have Hma := Lib.hid (Hm9.out.next hBa)
              have HBa := Lib.hid (HB9.out.trans (hBa.mono HB9.out.size))
              clear hBa
              go_wp2_with fail
              go_roundw
              case rel => exact ⟨p + 1, by omega, by go_num, Hma.out, HBa.out⟩
              case measure => simp [intOf]; omega
      · have hlti : ¬ (p : Int) < (k.length : Int) := by omega
        obtain rfl : p = k.length := by omega
        go_wp2_with (first
          | (go_at_call 14; ((with_reducible refine (HS2.out _).mono ?_); rintro e w' ⟨rfl, rfl⟩))
          | (go_at_call 15; refine (live_any _).mono ?_; rintro e wz ⟨rfl, hBz⟩; have HBz := Lib.hid (HBr.out.trans (hBz.mono HBr.out.size)); clear hBz))
        go_ret
        exact ⟨rfl, HBz.out⟩
end Go.Proofs.Ytmekffcpbjmffaa
