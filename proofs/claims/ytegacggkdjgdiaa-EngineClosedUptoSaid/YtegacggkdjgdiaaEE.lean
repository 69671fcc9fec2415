/- The greatest set of those that wait on a block, that can come: ready. -/
import Derived.Test.YtegacggkdjgdiaaED
import Derived.Scope
import Derived.Control
set_option linter.unusedVariables false
set_option linter.unusedSimpArgs false
namespace Go.Proofs.Ytegacggkdjgdiaa
open Go.RowKit

def lenV : Value → Nat
  | .slice _ n _ => n
  | _ => 0
theorem AhAt.at_ {w : World} {x : Wr} (h : AhAt w x) {k : Nat} (hk : k < x.ah.length) : ∃ b, x.A = some ⟨b, 0, none⟩ ∧ b < w.heap.size ∧ w.cell? ⟨b, k, none⟩ = some (.int .i64 (x.ah[k])) ∧ x.ah.length ≤ x.c ∧ x.c ≤ maxLen := by
  have h' := h
  unfold AhAt at h'
  obtain ⟨b, cap, e, _, hb⟩ := h'.form (by omega)
  obtain ⟨e1, _, e2⟩ := Value.slice.inj e
  refine ⟨b, e1, hb, ?_, ?_⟩
  · rw [e1] at h'
    rw [h'.cellAt k (by omega)]
    simp [hk]
  · rcases h'.2 with ⟨q, _⟩ | ⟨_, _, _, q, _, _, h1, h2, _⟩
    · rw [e1] at q; cases q
    · obtain ⟨_, _, q2⟩ := Value.slice.inj q
      rw [q2]; exact ⟨h1, h2⟩
theorem okIn_all {l kept : List Wr} {x : Wr} (h : ∀ j (hj : j < x.ah.length), (!hasN l x.ah[j] || hasN kept x.ah[j]) = true) : okIn l kept x = true := by
  unfold okIn
  rw [List.all_eq_true]
  intro n hn
  obtain ⟨j, hj, rfl⟩ := List.mem_iff_getElem.1 hn
  exact h j hj
theorem okIn_not {l kept : List Wr} {x : Wr} {j : Nat} (hj : j < x.ah.length) (h1 : hasN l x.ah[j] = true) (h2 : hasN kept x.ah[j] = false) : okIn l kept x = false := by
  unfold okIn
  rw [Bool.eq_false_iff]
  intro h
  have := List.all_eq_true.1 h _ (List.getElem_mem hj)
  rw [h1, h2] at this
  cases this
theorem wn_mid (kept : List Wr) (x : Wr) (rest : List Wr) : wn (kept ++ x :: rest) kept.length = x := by
  rw [wn_lt (by simp)]; simp

set_option maxRecDepth 100000 in
set_option maxHeartbeats 4000000 in
theorem ready_any (B ge gd : Nat) (k : Int) (A : Option Addr) (c : Nat) (l : List Wr) (i : Int) (w : World) (hH : HeadAt w ge gd k (.slice A l.length c)) (hR : RowW w B A c l) (hs : Asc l) (hl : l.length ≤ 1000) :
    Calls Try.prog 38 #[.pointer (some ⟨ge, 0, none⟩), .int .i64 i] w fun e w' => ∃ A' c', e = .returned (.slice A' (readyL l i).length c') ∧ RowW w' w.heap.size A' c' (readyL l i) ∧ Below w.heap.size w w' := by
  have HO := Lib.hid (on_any B ge gd k A c l i w hH hR hl)
  have HR := Lib.hid hR
  have HS := Lib.hid hs
  have HH := Lib.hid hH
  have Hsub := Lib.hid ((onL_sub l i).length_le)
  have Hon := Lib.hid (hs.filter fun x => x.p.b == i)
  clear hH hR hs
  go_enter Try.func38, Try.ntmps38
  go_wp2_with fail
  refine wp_scope_straight ?_
  go_wp2_with (refine HO.out.mono ?_; rintro e w1 ⟨A1, c1, rfl, hr1, hb1⟩; have HR1 := Lib.hid hr1; have HB1 := Lib.hid hb1; clear hr1 hb1)
  refine wp_label ?_
  go_wp2
  go_loopw [5, 6] (fun s q wr => ∃ (kept rest : List Wr) (A' : Option Addr) (c' : Nat), s = .slice A' (kept ++ rest).length c' ∧ q = .int .i64 kept.length ∧ Hid (RowW wr w.heap.size A' c' (kept ++ rest)) ∧ Hid (keepL l kept rest = readyL l i) ∧ Hid (Asc (kept ++ rest)) ∧ (kept ++ rest).length ≤ 1000 ∧ Below w.heap.size w wr) (fun s q _ => lenV s - (intOf q).toNat)
  case atStart => exact ⟨[], onL l i, A1, c1, rfl, rfl, HR1.out, rfl, Hon.out, by have := Hsub.out; simp; omega, HB1.out⟩
  case round =>
    obtain ⟨kept, rest, A', c', rfl, rfl, hrow, hkeep, hasc, hlen, hB⟩ := hrel
    rename World => wr
    have HB := Lib.hid hB
    have hsz := hB.size
    cases rest with
    | nil =>
      have hlti : ¬ (kept.length : Int) < ((kept ++ ([] : List Wr)).length : Int) := by simp
      have Hk : Hid (kept = readyL l i) := hkeep.out
      have Hr : Hid (RowW wr w.heap.size A' c' kept) := by have := hrow.out; rw [List.append_nil] at this; exact this
      rw [List.append_nil] at hlti ⊢
      clear hB hrow hkeep hasc
      go_wp2
      go_ret
      rw [← Hk.out]
      exact ⟨A', c', rfl, Hr.out, HB.out⟩
    | cons x rest =>
      obtain ⟨sl, hsl⟩ : ∃ sl, sl = (kept ++ x :: rest).length := ⟨_, rfl⟩
      have Hsl := Lib.hid hsl
      have hkl : kept.length < sl := by rw [hsl]; simp
      have hlti : (kept.length : Int) < (sl : Int) := by omega
      have hk0 : (0 : Int) ≤ (kept.length : Int) := by omega
      rw [← hsl] at hlen ⊢
      obtain ⟨ab, hA, h3, h4, hb, hcs, _⟩ := hrow.out.at_ (q := kept.length) (by rw [← hsl]; exact hkl)
      rw [wn_mid] at hcs
      rw [← hsl] at h3
      subst hA
      unfold maxLen at h4
      have c4 : wr.cell? ⟨ab, kept.length * 6 + 4, none⟩ = some (.slice x.A x.ah.length x.c) := hcs 4 (by omega)
      have Hah : Hid (AhAt wr x) := hrow.out.ah x (by simp)
      obtain ⟨kn, hkn⟩ : ∃ kn, kn = kept.length := ⟨_, rfl⟩
      have Hkn := Lib.hid hkn
      rw [← hkn] at hkl hlti hk0 c4 ⊢
      clear hsl hkn hcs hB
      obtain ⟨an, han⟩ : ∃ an, an = x.ah.length := ⟨_, rfl⟩
      have Han := Lib.hid han
      rw [← han] at c4
      obtain ⟨xA, hxA⟩ : ∃ xA, xA = x.A := ⟨_, rfl⟩
      have HxA := Lib.hid hxA
      rw [← hxA] at c4
      generalize x.c = xc at c4
      clear han hxA
      have HBw := Lib.hid (Below.refl wr.heap.size wr)
      go_wp2
      go_loopw [5, 22, 8] (fun s5 q _ wi => ∃ m : Nat, s5 = .slice (some ⟨ab, 0, none⟩) sl c' ∧ m ≤ an ∧ q = .int .i64 m ∧ Hid (∀ j (hj : j < x.ah.length), j < m → (!hasN l x.ah[j] || hasN kept x.ah[j]) = true) ∧ Below wr.heap.size wr wi) (fun _ q _ _ => an - (intOf q).toNat)
      case atStart => exact ⟨0, rfl, Nat.zero_le _, rfl, fun j _ h => absurd h (by omega), Below.refl _ _⟩
      case round =>
        obtain ⟨m, rfl, hm, rfl, hall, hBi⟩ := hrel
        rename World => wi
        have HBi := Lib.hid hBi
        by_cases hma : m < an
        · have hmi : (m : Int) < (an : Int) := by omega
          have hm0 : (0 : Int) ≤ (m : Int) := by omega
          have hml : m < x.ah.length := by rw [← Han.out]; exact hma
          obtain ⟨hb2, hA2, hlt2, hc2, hle, hcap⟩ := (Hah.out.keep (w' := wi) (F := fun _ => False) (Kept.fresh hBi) (NI.none _)).at_ hml
          have hanb : an ≤ 9223372036854775807 := by have := Han.out; unfold maxLen at hcap; omega
          rw [← HxA.out] at hA2
          subst hA2
          have c4i : wi.cell? ⟨ab, kn * 6 + 4, none⟩ = some (.slice (some ⟨hb2, 0, none⟩) an xc) := (hBi.cell (p := ⟨ab, kn * 6 + 4, none⟩) hb).trans c4
          have e2i := (HH.out.fresh (HB.out.trans (hBi.mono hsz))).c2
          obtain ⟨v, hv⟩ : ∃ v, v = x.ah[m] := ⟨_, rfl⟩
          have Hv := Lib.hid hv
          rw [← hv] at hc2
          have H1 := Lib.hid (fun W hW => has_any B A c l v W (HR.out.fresh (HB.out.trans hW)) HS.out hl)
          have hkt : (kept ++ x :: rest).take kn = kept := by rw [Hkn.out]; simp
          have H2 : Hid (∀ W, Below wr.heap.size wr W → Calls Try.prog 64 #[.slice (some ⟨ab, 0, none⟩) kn c', .int .i64 v] W fun e w' => e = .returned (.bool (hasN kept v)) ∧ Below W.heap.size W w') := fun W hW => by
            have h := (hrow.out.fresh hW).take kn (by rw [← Hsl.out]; omega)
            rw [hkt] at h
            have := has_any w.heap.size _ c' kept v W h (by have := hasc.out.take kn; rwa [hkt] at this) (by have := Hkn.out; omega)
            rwa [← Hkn.out] at this
          clear hv hkt hBi
          have hkc : kn ≤ c' := by omega
          cases t1 : hasN l v with
          | false =>
            rw [t1] at H1
            have Hall : Hid (∀ j (hj : j < x.ah.length), j < m + 1 → (!hasN l x.ah[j] || hasN kept x.ah[j]) = true) := fun j hj h => by
              by_cases e : j = m
              · subst e; rw [← Hv.out, t1]; rfl
              · exact hall.out j hj (by omega)
            clear t1
            go_wp2_with (go_at_call 64; (with_reducible refine (H1.out _ (HBi.out.mono hsz)).mono ?_); rintro e w2 ⟨rfl, hb2⟩; have HB2 := Lib.hid hb2; clear hb2)
            go_roundw
            case rel => exact ⟨m + 1, rfl, by omega, by go_num, Hall.out, HBi.out.trans (HB2.out.mono HBi.out.size)⟩
            case measure => simp [intOf]; omega
          | true =>
            cases t2 : hasN kept v with
            | true =>
              rw [t1] at H1
              rw [t2] at H2
              have Hall : Hid (∀ j (hj : j < x.ah.length), j < m + 1 → (!hasN l x.ah[j] || hasN kept x.ah[j]) = true) := fun j hj h => by
                by_cases e : j = m
                · subst e; rw [← Hv.out, t1, t2]; rfl
                · exact hall.out j hj (by omega)
              clear t1 t2
              go_wp2_with (first
                | (go_at_call 64; (with_reducible refine (H1.out _ (HBi.out.mono hsz)).mono ?_); rintro e w2 ⟨rfl, hb2⟩; have HB2 := Lib.hid hb2; clear hb2)
                | (go_at_call 64; (with_reducible refine (H2.out _ (HBi.out.trans (HB2.out.mono HBi.out.size))).mono ?_); rintro e w3 ⟨rfl, hb3⟩; have HB3 := Lib.hid hb3; clear hb3))
              go_roundw
              case rel => exact ⟨m + 1, rfl, by omega, by go_num, Hall.out, (HBi.out.trans (HB2.out.mono HBi.out.size)).trans (HB3.out.mono (HBi.out.trans (HB2.out.mono HBi.out.size)).size)⟩
              case measure => simp [intOf]; omega
            | false =>
              have Hno := Lib.hid (okIn_not hml (by rw [← Hv.out]; exact t1) (by rw [← Hv.out]; exact t2))
              rw [t1] at H1
              rw [t2] at H2
              have HDel : Hid (∀ W, Below wr.heap.size wr W → Calls Try.prog 65 #[.slice (some ⟨ab, 0, none⟩) sl c', .int .i64 kn, .int .i64 ((kn : Int) + 1)] W fun e w' => e = .returned (.slice (some ⟨ab, 0, none⟩) (sl - 1) c') ∧ w'.ownsRow w.heap.size 90 6 (.slice (some ⟨ab, 0, none⟩) (sl - 1) c') (sl - 1) (flatW (kept ++ rest)) ∧ W.grownBy w' (some ab)) := fun W hW => by
                have hrw := (hrow.out.fresh hW).row
                rw [← Hsl.out] at hrw
                have := delete_any w.heap.size ab c' sl kn (kn + 1) (sl - 1) kn ((kn : Int) + 1) (kept ++ x :: rest) W hrw Hsl.out hkl hlen rfl (by omega) rfl (by omega)
                have e : (kept ++ x :: rest).eraseIdx kn = kept ++ rest := by rw [Hkn.out, List.eraseIdx_append_of_length_le (Nat.le_refl _)]; simp
                rw [e] at this
                exact this
              clear t1 t2
              have hkw : IntKind.i64.wrap ((kn : Int) + 1) = (kn : Int) + 1 := by simp [IntKind.wrap, IntKind.bits, IntKind.signed]; omega
              go_wp2_with (first
                | (go_at_call 64; (with_reducible refine (H1.out _ (HBi.out.mono hsz)).mono ?_); rintro e w2 ⟨rfl, hb2⟩; have HB2 := Lib.hid hb2; clear hb2)
                | (go_at_call 64; (with_reducible refine (H2.out _ (HBi.out.trans (HB2.out.mono HBi.out.size))).mono ?_); rintro e w3 ⟨rfl, hb3⟩; have HB3 := Lib.hid hb3; clear hb3)
                | (go_at_call 65; (with_reducible refine (HDel.out _ ((HBi.out.trans (HB2.out.mono HBi.out.size)).trans (HB3.out.mono (HBi.out.trans (HB2.out.mono HBi.out.size)).size))).mono ?_); rintro e w4 ⟨rfl, ho4, hg4⟩; have HO4 := Lib.hid ho4; have HG4 := Lib.hid hg4; clear ho4 hg4))
              have hB3 := (HBi.out.trans (HB2.out.mono HBi.out.size)).trans (HB3.out.mono (HBi.out.trans (HB2.out.mono HBi.out.size)).size)
              have hlr : (kept ++ rest).length = sl - 1 := by rw [Hsl.out]; simp
              have hni : NI wr (fun b => b = ab) := by
                have := NI.row hrow.out.row (by decide)
                exact fun b hb => this b (by rw [hb]; rfl)
              have hk4 : Kept wr w4 (fun b => b = ab) := (Kept.fresh (S := fun b => b = ab) hB3).trans (Kept.grown (S := fun b => b = ab) HG4.out (fun k e => .inl (by injection e with e; exact e.symm))) (fun b q => .inl q)
              refine ⟨⟨kept, rest, some ⟨ab, 0, none⟩, c', by rw [hlr], by rw [Hkn.out], ⟨by rw [hlr]; exact HO4.out, fun y hy => (hrow.out.ah y (by rcases List.mem_append.1 hy with h | h; exact List.mem_append_left _ h; exact List.mem_append_right _ (List.mem_cons_of_mem _ h))).keep hk4 hni⟩, ?_, ?_, by omega, ?_⟩, ?_⟩
              · have := hkeep.out
                unfold keepL at this
                rw [Hno.out] at this
                exact this
              · exact hasc.out.sub (List.Sublist.append (List.Sublist.refl _) (List.sublist_cons_self _ _))
              · have hab := (hrow.out.lt ab rfl).1
                exact (HB.out.trans (hB3.mono hsz)).grown HG4.out (HB.out.trans (hB3.mono hsz)).size (fun k e => by injection e with e; omega)
              · simp [lenV, intOf]; omega
        · have hme : m = an := by omega
          subst hme
          have hmi : ¬ (m : Int) < (m : Int) := by omega
          have Hok := Lib.hid (okIn_all fun j hj => hall.out j hj (by rw [Han.out]; exact hj))
          clear hBi
          go_wp2
          have hlr : (kept ++ [x]).length = kn + 1 := by rw [Hkn.out]; simp
          have e : (kept ++ [x]) ++ rest = kept ++ x :: rest := by simp
          refine ⟨⟨kept ++ [x], rest, some ⟨ab, 0, none⟩, c', by rw [e, ← Hsl.out], by rw [hlr]; simp, by rw [e]; exact hrow.out.fresh HBi.out, ?_, by rw [e]; exact hasc.out, by rw [e, ← Hsl.out]; exact hlen, HB.out.trans (HBi.out.mono hsz)⟩, ?_⟩
          · have := hkeep.out
            unfold keepL at this
            rw [Hok.out] at this
            exact this
          · simp [lenV, intOf]; omega
end Go.Proofs.Ytegacggkdjgdiaa
