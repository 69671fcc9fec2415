/- A unit's patches and all that wait and that one of these comes behind: closed. -/
import Derived.Test.YtkldiofleepkfaaHR
import Derived.Test.YtkldiofleepkfaaHHD
set_option linter.unusedVariables false
set_option linter.unusedSimpArgs false
namespace Go.Proofs.Ytkldiofleepkfaa.Hd
open Go.RowKit
open Go.Maps (Keyed)
theorem isKey (n : Int) : WideAt.IsKeyLit (.int .i64 n) := trivial
theorem WfI.of_wf {n : Int} (h : (Lit.int .i64 n).wf = true) : WfI n := by
  simp [Lit.wf, IntKind.min, IntKind.max, IntKind.signed, IntKind.bits] at h
  unfold WfI
  omega
theorem Kept.mapH {w w' : World} {S : Nat → Prop} {k : TypeId} {R : Value → Option (DataW Value × List MemPlace)} {b n : Nat} {D : DataW Value} (h : Kept w w' S) (hm : w.ownsMap Try.prog k R b n D) (hn : ¬ S b) : w'.ownsMap Try.prog k R b n D := by
  obtain ⟨es, clock, hb, F, hs, hD⟩ := hm
  exact ⟨es, clock, (h.block b (Array.getElem?_eq_some_iff.1 hb).1 hn).trans hb, F, hs, hD⟩
/-- block b holds the set of the numbers l, behind at most c stores -/
def SetAt (w : World) (b c : Nat) (l : List Int) : Prop :=
  ∃ D : DataW Value, w.ownsMap Try.prog 3 unitElem b c D ∧ ∀ x : Int, Maps.has D (.int .i64 x) = true ↔ x ∈ l
/-- a block that holds a map -/
def MapB (w : World) (b : Nat) : Prop := ∃ es clock, w.heap[b]? = some (.map es clock)
theorem ownsB {w : World} {k : TypeId} {R : Value → Option (DataW Value × List MemPlace)} {b n : Nat} {D : DataW Value} (h : w.ownsMap Try.prog k R b n D) : MapB w b := by
  obtain ⟨es, clock, hb, _⟩ := h; exact ⟨es, clock, hb⟩
namespace SetAt
variable {w w' : World} {b c d : Nat} {l m : List Int}
theorem mapB (h : SetAt w b c l) : MapB w b := by obtain ⟨D, h1, _⟩ := h; exact ownsB h1
theorem lt (h : SetAt w b c l) : b < w.heap.size := by obtain ⟨D, h1, _⟩ := h; exact h1.lt
theorem more (h : SetAt w b c l) (hc : c ≤ d) : SetAt w b d l := by obtain ⟨D, h1, h2⟩ := h; exact ⟨D, h1.mono hc, h2⟩
theorem same (h : SetAt w b c l) (hm : ∀ x, x ∈ m ↔ x ∈ l) : SetAt w b c m := by obtain ⟨D, h1, h2⟩ := h; exact ⟨D, h1, fun x => (h2 x).trans (hm x).symm⟩
theorem keep {S : Nat → Prop} (h : SetAt w b c l) (hk : Kept w w' S) (hn : ¬ S b) : SetAt w' b c l := by obtain ⟨D, h1, h2⟩ := h; exact ⟨D, Kept.mapH hk h1 hn, h2⟩
theorem fresh (h : SetAt w b c l) (hb : Below w.heap.size w w') : SetAt w' b c l := h.keep (S := fun _ => False) (Kept.fresh hb) (fun q => q)
theorem wf (h : SetAt w b c l) : ∀ x ∈ l, WfI x := fun x hx => by
  obtain ⟨D, h1, h2⟩ := h
  obtain ⟨es, hD, hko⟩ := h1.keysOf
  have := (h2 x).2 hx
  rw [hD] at this
  rw [Maps.has_eq] at this
  obtain ⟨p, hp, e⟩ := List.any_eq_true.1 this
  obtain ⟨v, hv⟩ := hko p hp
  obtain ⟨x', _, hx', hw⟩ := Maps.keyOf_int_inv Try.underlying3 hv
  rw [hx'] at e
  have e2 : x' = x := by simpa [Lit.sameKey] using e
  rw [← e2]
  exact WfI.of_wf hw
end SetAt
theorem set_made (w : World) : SetAt (w.alloc (.map #[] 0)) w.heap.size 0 [] :=
  ⟨.map [], World.ownsMap_made w Try.prog 3 unitElem, fun x => by constructor <;> (intro h; cases h)⟩
theorem zeroS (w : World) : (zeroValue 110).run Try.prog w = .ok (.agg #[]) w := by
  have := (by kernel_rfl : (Try.prog.info? 110).map (·.zero) = some (some (.agg #[])))
  cases hq : Try.prog.info? 110 with
  | none => simp [hq] at this
  | some i => simp [hq] at this; simp [zeroValue, typeInfo, hq, this]

theorem infoIn : (Try.prog.info? 3).map (fun i => (i.zero, i.size, i.bytes)) = some (some (.int .i64 0), 1, 8) := by kernel_rfl
theorem intsI_append (a b : List Int) : intsI (a ++ b) = intsI a ++ intsI b := by simp [intsI]
theorem intsI_take (a : List Int) (k : Nat) : (intsI a).take k = intsI (a.take k) := by simp [intsI]
theorem length_intsI (a : List Int) : (intsI a).length = a.length := by simp [intsI]
theorem intsI_one (a : List Int) : ∀ u ∈ intsI a, u.oneCell' = true := by
  intro u hu
  obtain ⟨x, _, rfl⟩ := List.mem_map.1 hu
  rfl
/-- a row of its own as what is appended -/
theorem own_src {w : World} {B E n c : Nat} {A : Option Addr} {xs : List Value} (h : w.ownsRow B E 1 (.slice A n c) n xs) : (∀ ad, A = some ad → ∀ j u, xs[j]? = some u → w.cell? (ad.add j) = some u) ∧ (A = none → n = 0) := by
  rcases h.2 with ⟨q, h0⟩ | ⟨k, cap, cur, q, _⟩
  · obtain ⟨rfl, _, _⟩ := Value.slice.inj q
    exact ⟨fun ad e => (by cases e), fun _ => h0⟩
  · obtain ⟨rfl, _, _⟩ := Value.slice.inj q
    refine ⟨fun ad e j u hu => ?_, fun e => by cases e⟩
    cases e
    have hlt := (List.getElem?_eq_some_iff.1 hu).1
    rw [h.1, Nat.mul_one] at hlt
    rw [Addr.add_lit, Nat.zero_add, h.cellAt j (by omega)]
    exact hu
theorem un_last (s : List Int) (n : Int) : un (s ++ [n]) s.length = n := by rw [un_lt (by simp)]; simp
theorem HAt.ah_len {w : World} {g gd n cc : Nat} {S : Nat → Bk} {k jo id : Int} {l : List Hw} {sent : List Int} {m : Lay} {Fd : Nat → Prop} (h : HAt w g gd n S cc k jo id l sent m Fd) (hk : k ≤ 1000000) {x : Hw} (hx : x ∈ l) : x.ah.length ≤ 1000000 := by
  have := rise_len (b := 1000000) (a := 0) (h.ok.rise x hx) (fun d hd => ⟨h.ah0 x hx d hd, by have := h.ok.behind x hx d hd; have := (h.lo x hx).2; omega⟩) (by omega)
  omega
/-- what closed answers -/
def ClosedAt (w : World) (l : List Hw) (u : Int) (b : Nat) (w' : World) : Prop := ∃ T, SetAt w' b 1000000000 T ∧ w.heap.size ≤ b ∧ (∀ n, n ∈ T ↔ hasN l n = true ∧ Near l u n) ∧ Below w.heap.size w w'
set_option maxRecDepth 100000 in
set_option maxHeartbeats 4000000 in
theorem closed_any {w : World} {g gd n cc : Nat} {S : Nat → Bk} {k jo id : Int} {l : List Hw} {sent : List Int} {m : Lay} {Fd : Nat → Prop} (h : HAt w g gd n S cc k jo id l sent m Fd) (hk : k ≤ 1000000) {u : Int} (hu : u ∈ units l) :
    Calls Try.prog 56 #[.pointer (some ⟨g, 0, none⟩), .pointer (some ⟨m.up u, 0, none⟩)] w fun e w' => ∃ b, e = .returned (.map (some b)) ∧ ClosedAt w l u b w' := by
  have HH := Lib.hid h
  have Hok := Lib.hid h.ok
  have hge := h.glt
  have e4 := h.c4
  have hfew := h.few
  have hlen : (ofU l u).length ≤ 200 := by have := List.length_filter_le (fun x : Hw => x.u == u) l; unfold ofU; omega
  have HN := Lib.hid (fun W (hW : Below w.heap.size w W) => numbers_any (m.up u) u (ubl l u) (m.UA u) (m.UC u) (sent.contains u) (ofU l u) m.wp W ((h.fresh hW).us u hu) ((h.fresh hW).ups u hu) (fun x hx => (h.fresh hW).wcell (mem_ofU.1 hx).1) (by omega))
  have Hst := Lib.hid (Cls.start l u)
  have Hwl : Hid (wgt [] l + (ofU l u).length ≤ 200200400) := by
    have h1 := wgt_le [] (m := 1000000) (l := l) (fun x hx => h.ah_len hk hx)
    have : l.length * (1000000 + 1) ≤ 200 * 1000001 := Nat.mul_le_mul hfew (Nat.le_refl _)
    unfold Hid; omega
  have HBm : Hid (Below w.heap.size w (w.alloc (.map #[] 0))) := below_alloc1 w _
  have HSm := Lib.hid (set_made w)
  have hmm := @run_makeMap Try.prog
  obtain ⟨i0, hi0, hz0, hz1, hz2⟩ := info_parts infoIn
  obtain ⟨nu, hnu⟩ : ∃ nu, nu = nums (ofU l u) := ⟨_, rfl⟩
  have hnul : (ofU l u).length = nu.length := by rw [hnu]; simp [nums]
  have Hst2 : Hid (Cls l u nu []) := by have := Hst.out; rw [hnu]; exact this
  rw [hnul] at Hwl hlen
  rw [← hnu] at HN
  generalize m.up u = ub at *
  clear h hu Hst hnu hnul
  go_enter Try.func56, Try.ntmps56
  go_wp2_with (go_at_call 26; refine (HN.out _ HBm.out).mono ?_; rintro e w1 ⟨A1, c1, rfl, hr1, hb1⟩; have HR1 : Hid (w1.ownsRow w.heap.size 3 1 (.slice A1 nu.length c1) nu.length (intsI nu)) := hr1.mono (by simp); have HS1 := Lib.hid (HSm.out.fresh hb1); have HB1 := Lib.hid (HBm.out.trans (hb1.mono HBm.out.size)); clear hr1 hb1)
  obtain ⟨sb, hsb⟩ : ∃ sb, sb = w.heap.size := ⟨_, rfl⟩
  have Hsb := Lib.hid hsb
  rw [← hsb] at HS1 ⊢
  clear hsb
  go_loopg [6] (wgt [] l + nu.length) (fun q s wr => ∃ (st T : List Int) (A : Option Addr) (c ct : Nat), s = .slice A st.length c ∧ Hid (wr.ownsRow w.heap.size 3 1 (.slice A st.length c) st.length (intsI st)) ∧ Hid (SetAt wr sb ct T) ∧ Hid (Cls l u st T) ∧ wgt T l + st.length ≤ q ∧ ct + q ≤ 200200400 ∧ Below w.heap.size w wr)
  case atStart => exact ⟨nu, [], A1, c1, 0, rfl, HR1.out, HS1.out, Hst2.out, Nat.le_refl _, by have := Hwl.out; omega, HB1.out⟩
  case round =>
    obtain ⟨st, T, A, c, ct, rfl, hrow, hset, hcl, hm, hct, hB⟩ := hrel
    rename World => wr
    have HB := Lib.hid hB
    have hsz := hB.size
    by_cases hnil : st = []
    · subst hnil
      have h0 : ¬ (0 : Int) < ((([] : List Int).length : Nat) : Int) := by simp
      clear hB
      go_wp2
      go_ret
      exact ⟨sb, rfl, T, hset.out.more (by omega), by rw [Hsb.out]; exact Nat.le_refl _, fun n => hcl.out.done n, HB.out⟩
    · obtain ⟨s', x, hsx⟩ : ∃ s' x, st = s' ++ [x] := ⟨st.dropLast, st.getLast hnil, (List.dropLast_concat_getLast hnil).symm⟩
      subst hsx
      have hwf : WfI x := by
        have hl := hcl.out.left x (by simp)
        generalize x = x' at hl
        cases hl with
        | unit hx hu => have := HH.out.lo _ hx; unfold WfI; omega
        | ahead hx _ hd => exact HH.out.wf hk hx hd
      obtain ⟨sn, hsn⟩ : ∃ sn, sn = s'.length := ⟨_, rfl⟩
      have Hsn := Lib.hid hsn
      obtain ⟨sl, hsl⟩ : ∃ sl, sl = (s' ++ [x]).length := ⟨_, rfl⟩
      have hsl1 : sl = sn + 1 := by rw [hsl, hsn]; simp
      rw [← hsl] at hrow hm ⊢
      obtain ⟨ab, hA, h3, h4, hb, hcs, _⟩ := ptr_at hrow.out (q := sn) (by omega)
      rw [intsI_at (by rw [← hsl]; omega), hsn, un_last, ← hsn] at hcs
      subst hA
      unfold maxLen at h4
      have htk := own_take hrow.out (i := sn) (by omega)
      rw [Nat.mul_one, intsI_take, hsn, List.take_left' rfl, ← hsn] at htk
      have HT := Lib.hid htk
      have hpos : (0 : Int) < (sl : Int) := by omega
      have hw1 : IntKind.i64.wrap ((sl : Int) - 1) = (sn : Int) := by rw [hsl1]; simp [IntKind.wrap, IntKind.bits, IntKind.signed]; omega
      have hi1 : (sl : Int) - 1 < (sl : Int) := by omega
      have hi2 : (0 : Int) ≤ (sl : Int) - 1 := by omega
      have hi3 : ((sl : Int) - 1).toNat = sn := by omega
      have hi4 : (sl : Int) - 1 ≤ (c : Int) := by omega
      have hne : ab ≠ sb := by
        obtain ⟨es, ck, q⟩ := hset.out.mapB
        intro e
        subst e
        rcases hrow.out.2 with ⟨q2, _⟩ | ⟨g2, cap, cur, q2, _, hg2, _⟩
        · cases q2
        · cases q2; rw [q] at hg2; cases hg2
      have HHr := HH.out.fresh hB
      have e4r := HHr.c4
      have hger := HHr.glt
      obtain ⟨Dw, hD1, hD2, hD3⟩ := HHr.wlook x
      have H1 := Lib.hid hD1
      have HK := Lib.hid (keyI hwf)
      obtain ⟨D, hs1, hs2⟩ := hset.out
      have HS1 := Lib.hid hs1
      by_cases hT : x ∈ T
      · have hw := (hcl.out.near x hT).2
        have Hh : Hid (Maps.has Dw (.int .i64 x) = true) := hD2.trans hw
        have Hat := Lib.hid (hD3 hw)
        have Hs : Hid (Maps.has D (.int .i64 x) = true) := (hs2 x).2 hT
        have Hcl2 := Lib.hid (hcl.out.skip (.inl hT))
        have hb1 : Below wr.heap.size wr (wr.alloc (.cells #[] 110)) := below_alloc1 wr _
        have Hrow2 := Lib.hid ((Kept.fresh (S := fun _ => False) hb1).row htk (fun _ _ q => q))
        have Hset2 := Lib.hid (hset.out.fresh hb1)
        have Hb1 := Lib.hid (hB.trans (hb1.mono hsz))
        clear hD1 hD2 hD3 hs1 hs2 htk hB hw hT hwf hrow hset hcl HHr hsn hsl hb1 hnil
        go_wp2_with (first
          | (at_lookup; refine wpList_lookup_own_ok _ rfl _ _ 42 rfl 3 82 lawI Try.underlying42 RV (zeroW _) (.held (.pointer none)) [] rfl m.gw cc Dw rfl H1.out _ _ rfl HK.out ?_; intro v ps hv; rw [Hh.out]; obtain rfl := Hat.out v ps hv; clear hv)
          | (at_lookup; refine wpList_lookup_own_unit _ rfl _ _ 109 rfl 3 110 lawI Try.underlying109 (zeroS _) sb ct D rfl HS1.out _ _ rfl HK.out ?_; rw [Hs.out]))
        go_roundg (wgt T l + s'.length)
        case rel => exact ⟨s', T, some ⟨ab, 0, none⟩, c, ct, by rw [← Hsn.out], by rw [← Hsn.out]; exact Hrow2.out, Hset2.out, Hcl2.out, Nat.le_refl _, by have := Hsn.out; omega, Hb1.out⟩
        case measure => have := Hsn.out; omega
      · have Hs : Hid (Maps.has D (.int .i64 x) = false) := by
          unfold Hid
          cases q : Maps.has D (.int .i64 x) with
          | false => rfl
          | true => exact absurd ((hs2 x).1 q) hT
        cases hw : hasN l x with
        | false =>
          have Hh : Hid (Maps.has Dw (.int .i64 x) = false) := hD2.trans hw
          have Hcl2 := Lib.hid (hcl.out.skip (.inr hw))
          have hb1 : Below wr.heap.size wr (wr.alloc (.cells #[] 110)) := below_alloc1 wr _
          have Hrow2 := Lib.hid ((Kept.fresh (S := fun _ => False) hb1).row htk (fun _ _ q => q))
          have Hset2 := Lib.hid (hset.out.fresh hb1)
          have Hb1 := Lib.hid (hB.trans (hb1.mono hsz))
          clear hD1 hD2 hD3 hs1 hs2 htk hB hw hT hwf hrow hset hcl HHr hsn hsl hb1 hnil
          go_wp2_with (first
            | (at_lookup; refine wpList_lookup_own_ok _ rfl _ _ 42 rfl 3 82 lawI Try.underlying42 RV (zeroW _) (.held (.pointer none)) [] rfl m.gw cc Dw rfl H1.out _ _ rfl HK.out ?_; intro v ps hv; rw [Hh.out]; clear hv)
            | (at_lookup; refine wpList_lookup_own_unit _ rfl _ _ 109 rfl 3 110 lawI Try.underlying109 (zeroS _) sb ct D rfl HS1.out _ _ rfl HK.out ?_; rw [Hs.out]))
          go_roundg (wgt T l + s'.length)
          case rel => exact ⟨s', T, some ⟨ab, 0, none⟩, c, ct, by rw [← Hsn.out], by rw [← Hsn.out]; exact Hrow2.out, Hset2.out, Hcl2.out, Nat.le_refl _, by have := Hsn.out; omega, Hb1.out⟩
          case measure => have := Hsn.out; omega
        | true =>
          obtain ⟨y, hy, rfl⟩ := hasN_iff.1 hw
          have Hh : Hid (Maps.has Dw (.int .i64 y.num) = true) := hD2.trans hw
          have Hat := Lib.hid (hD3 hw)
          have Hcl2 : Hid (Cls l u (s' ++ y.ah) (y.num :: T)) := Cls.mark Hok.out.asc hcl.out hy (by simp)
          have Hwg : Hid (wgt (y.num :: T) l + (y.ah.length + 1) ≤ wgt T l) := wgt_mark (fun n hn => List.mem_cons_of_mem _ hn) hT List.mem_cons_self l hy
          have HF : Hid (∀ w7 : World, w7.ownsMap Try.prog 3 unitElem sb (ct + 1) (D.put (.int .i64 y.num) (.agg [])) → SetAt w7 sb (ct + 1) (y.num :: T)) := fun w7 h7 => by
            refine ⟨_, h7, fun z => ?_⟩
            by_cases e : z = y.num
            · rw [e, Maps.has_put_same hs1.isMap (isKey _)]; simp
            · rw [Maps.has_put_other (ne_key e), hs2 z]; simp [e]
          have HSa : Hid (∀ W, Below wr.heap.size wr W → W.ownsMap Try.prog 3 unitElem sb ct D) := fun W hW => Kept.mapH (Kept.fresh (S := fun _ => False) hW) hs1 (fun q => q)
          have hsbl : sb < wr.heap.size := hset.out.lt
          have HC : Hid (ct < maxLen) := by unfold Hid maxLen; omega
          have hb1 : Below wr.heap.size wr (wr.alloc (.cells #[] 110)) := below_alloc1 wr _
          have HBa := Lib.hid hb1
          have Hb1 := Lib.hid (hB.trans (hb1.mono hsz))
          have HRw : Hid (∀ w7 : World, (wr.alloc (.cells #[] 110)).grownBy w7 (some sb) → w7.ownsRow w.heap.size 3 1 (.slice (some ⟨ab, 0, none⟩) sn c) sn (intsI s')) := fun w7 hg7 => (Kept.grown (S := fun b => b = sb) hg7 (fun b e => by cases e; exact .inl rfl)).row ((Kept.fresh (S := fun _ => False) hb1).row htk (fun _ _ q => q)) (fun b hb q => by
            have : ab = b := by simpa [Value.ownBlock] using hb
            exact hne (this.trans q))
          have Han := Lib.hid (HH.out.ah_len hk hy)
          have HX4 : Hid (∀ W, Below w.heap.size w W → W.cell? ⟨m.wp y.num, 4, none⟩ = some (.slice (m.WA y.num) y.ah.length (m.WC y.num)) ∧ m.wp y.num < W.heap.size) := fun W hW => by
            obtain ⟨q1, _, _, _, q2, _⟩ := wcellsH (HH.out.fresh hW) hy
            exact ⟨q2, q1⟩
          have HAh : Hid (∀ W, Below w.heap.size w W → W.ownsRow 0 3 1 (.slice (m.WA y.num) y.ah.length (m.WC y.num)) y.ah.length (intsI y.ah)) := fun W hW => (HH.out.fresh hW).ahs y hy
          have Hab : Hid (w.heap.size ≤ ab) := (hrow.out.lt ab rfl).1
          have Hsbw : Hid (w.heap.size ≤ sb) := by rw [Hsb.out]; exact Nat.le_refl _
          have hanb : y.ah.length ≤ 1000000 := Han.out
          have Hone := Lib.hid (intsI_one y.ah)
          have Hlen : Hid ((intsI y.ah).length = y.ah.length * 1) := by simp [intsI, Hid]
          have Hap := Lib.hid (intsI_append s' y.ah)
          have Hsl2 : Hid ((s' ++ y.ah).length = sn + y.ah.length) := by rw [hsn]; simp [Hid]
          generalize m.WA y.num = xA at *
          generalize m.WC y.num = xC at *
          generalize m.wp y.num = xb at *
          obtain ⟨an, han⟩ : ∃ an, an = y.ah.length := ⟨_, rfl⟩
          have HanE := Lib.hid han
          rw [← han] at HX4 HAh hanb Hlen Hsl2 Hwg
          obtain ⟨T2, hT2⟩ : ∃ T2, T2 = y.num :: T := ⟨_, rfl⟩
          rw [← hT2] at HF Hcl2 Hwg
          obtain ⟨ah, hah⟩ : ∃ ah, ah = y.ah := ⟨_, rfl⟩
          rw [← hah] at HAh Hone Hlen Hap Hsl2 Hcl2
          obtain ⟨yn, hyn⟩ : ∃ yn, yn = y.num := ⟨_, rfl⟩
          rw [← hyn] at hcs HK Hh Hat Hs HF
          have HF2 := HF
          clear hD1 hD2 hD3 hs1 hs2 htk hB hw hT hwf hrow hset hcl HHr hsn hsl hb1 hnil hy han hT2 hah hyn Han HF
          go_wp2_with (first
            | (at_lookup; refine wpList_lookup_own_ok _ rfl _ _ 42 rfl 3 82 lawI Try.underlying42 RV (zeroW _) (.held (.pointer none)) [] rfl m.gw cc Dw rfl H1.out _ _ rfl HK.out ?_; intro v ps hv; rw [Hh.out]; obtain rfl := Hat.out v ps hv; clear hv)
            | (at_lookup; refine wpList_lookup_own_unit _ rfl _ _ 109 rfl 3 110 lawI Try.underlying109 (zeroS _) sb ct D rfl HS1.out _ _ rfl HK.out ?_; rw [Hs.out])
            | (at_mapUpdate; refine wpList_mapUpdate_own _ rfl _ _ _ 109 rfl 3 110 lawI Try.underlying109 unitElem sb ct D rfl (HSa.out _ HBa.out) HC.out _ _ (.int .i64 yn) rfl rfl HK.out (.agg []) [] rfl ?_; intro w7 h7 hg7; have H7 := Lib.hid (HF2.out w7 h7); have HB7 : Hid (Below w.heap.size w w7) := Hb1.out.grown hg7 Hb1.out.size (fun k e => by injection e with e; rw [← e]; exact Hsbw.out); have HR7 := Lib.hid (HRw.out w7 hg7); have hs7 := HB7.out.size; obtain ⟨x4, xw⟩ := HX4.out w7 HB7.out; have HA7 := Lib.hid (own_src (HAh.out w7 HB7.out)); clear h7 hg7)
            | (at_builtin; refine wpList_append_src rfl (.tmp 52) (.tmp 56) 33 rfl w.heap.size 3 i0 _ 1 8 Try.underlying33 hi0 hz0 hz1 hz2 rfl (by decide) (.slice (some ⟨ab, 0, none⟩) sn c) sn (intsI s') rfl HR7.out xA an xC (intsI ah) rfl Hlen.out HA7.out.1 HA7.out.2 Hone.out (by unfold maxLen; omega) (by omega) (by omega) (sn + an) rfl ?_; intro A3 c3 w9 ho2 hg2 hor2; have HO2 := Lib.hid ho2; have HG2 := Lib.hid hg2; clear ho2 hg2 hor2))
          go_roundg (wgt T2 l + (sn + an))
          case rel =>
            refine ⟨s' ++ ah, T2, A3, c3, ct + 1, by rw [Hsl2.out], ?_, ?_, Hcl2.out, by rw [Hsl2.out]; exact Nat.le_refl _, by have := Hwg.out; omega, ?_⟩
            · rw [Hsl2.out, Hap.out]; exact HO2.out
            · exact H7.out.keep (Kept.grown (S := fun b => b = ab) HG2.out (fun b e => by cases e; exact .inl rfl)) (fun q => hne q.symm)
            · exact HB7.out.grown HG2.out hs7 (fun k e => by injection e with e; rw [← e]; exact Hab.out)
          case measure => have := Hwg.out; omega
end Go.Proofs.Ytkldiofleepkfaa.Hd
