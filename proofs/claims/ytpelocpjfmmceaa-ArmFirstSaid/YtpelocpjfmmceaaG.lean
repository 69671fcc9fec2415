/- The program's arm: its blocks, how far it is to one, the best of some. -/
import Derived.Test.YtpelocpjfmmceaaF
set_option linter.unusedVariables false
set_option linter.unusedSimpArgs false
namespace Go.Proofs.Ytpelocpjfmmceaa
open Go.RowKit

section
variable {P : Program} {ops : Array Oper} {o : Oper} {a : Act} {w : World}
/-- append of a slice that may be nil onto a row of the call's own -/
theorem run_append_src (w : World) (base : Nat) (t ty e : TypeId) (i : TypeInfo) (z : Value) (size bytes : Nat) (ht : P.underlying t = some (.slice e)) (hi : P.info? e = some i) (hz : i.zero = some z)
    (hsize : i.size = size) (hby : i.bytes = bytes) (hzs : z.cells.size = size) (hsz : 0 < size)
    (v : Value) (n : Nat) (xs : List Value) (hown : w.ownsRow base e size v n xs)
    (A : Option Addr) (m c : Nat) (news : List Value) (hl : news.length = m * size) (hsrc : ∀ ad, A = some ad → ∀ j u, news[j]? = some u → w.cell? (ad.add j) = some u) (hnil : A = none → m = 0) (h1 : ∀ u ∈ news, u.oneCell' = true)
    (h63 : n + m ≤ maxLen) (hbytes : (n + m) * bytes ≤ 140737488355328) (hbase : base ≤ w.heap.size) :
    ∃ v' w', (Builtin.append_ #[t, t] ty #[v, .slice A m c]).run P w = .ok v' w' ∧ w'.ownsRow base e size v' (n + m) (xs ++ news) ∧ w.grownBy w' v.ownBlock ∧ (v'.ownBlock = v.ownBlock ∨ v'.ownBlock = some w.heap.size) := by
  rcases A with _ | ad
  · have hm := hnil rfl
    subst hm
    have hn : news = [] := List.eq_nil_of_length_eq_zero (by simpa using hl)
    subst hn
    refine ⟨v, w, ?_, by simpa using hown, World.grownBy.refl w _, .inl rfl⟩
    rcases hown.2 with ⟨rfl, rfl⟩ | ⟨g, cap, cur, rfl, _, _, hnc, _⟩
    · simp [Builtin.append_, run_underlying ht, sizeOf, typeInfo, hi, Builtin.lenOf, Builtin.firstCells]
    · simp [Builtin.append_, run_underlying ht, sizeOf, typeInfo, hi, Builtin.lenOf, Builtin.firstCells, hnc, storeCells]
  · obtain ⟨v', w', hr, h2, h3, _, h5⟩ := run_append_own_at (P := P) w base t ty e i z size bytes ht hi hz hsize hby hzs hsz v n xs hown ad m c news hl (hsrc ad rfl) h1 h63 hbytes hbase
    exact ⟨v', w', hr, h2, h3, h5⟩
theorem step_append_src {K : Act → World → Prop} {Q : Exit → Act → World → Prop} {EE : Prop} (hgd : o.guard = none) (s x : Operand) (t : TypeId)
    (hop : o.op = .call { callee := .builtin .append, args := #[s, x], argTypes := #[t, t] })
    (base : Nat) (e : TypeId) (i : TypeInfo) (z : Value) (size bytes : Nat) (ht : P.underlying t = some (.slice e)) (hi : P.info? e = some i) (hz : i.zero = some z)
    (hsize : i.size = size) (hby : i.bytes = bytes) (hzs : z.cells.size = size) (hsz : 0 < size)
    (v : Value) (n : Nat) (xs : List Value) (hs : a.eval s = v) (hown : w.ownsRow base e size v n xs)
    (A : Option Addr) (m c : Nat) (news : List Value) (hx : a.eval x = .slice A m c) (hl : news.length = m * size) (hsrc : ∀ ad, A = some ad → ∀ j u, news[j]? = some u → w.cell? (ad.add j) = some u) (hnil : A = none → m = 0) (h1 : ∀ u ∈ news, u.oneCell' = true)
    (h63 : n + m ≤ maxLen) (hbytes : (n + m) * bytes ≤ 140737488355328) (hbase : base ≤ w.heap.size) (q : Nat) (hq : n + m = q)
    (hK : ∀ A' c' w', w'.ownsRow base e size (.slice A' q c') q (xs ++ news) → w.grownBy w' v.ownBlock → ((Value.slice A' q c').ownBlock = v.ownBlock ∨ (Value.slice A' q c').ownBlock = some w.heap.size) → K (a.put o.dst (.slice A' q c')) w') :
    if Region.wanted o (yielded ops a.tmps) = true then Oper.wp P o a w K Q else EE := by
  subst hq
  have hw : Region.wanted o (yielded ops a.tmps) = true := by simp [Region.wanted, hgd]
  rw [if_pos hw]
  obtain ⟨v', w', hrun, r1, r2, r3⟩ := run_append_src (P := P) w base t o.type e i z size bytes ht hi hz hsize hby hzs hsz v n xs hown A m c news hl hsrc hnil h1 h63 hbytes hbase
  obtain ⟨A', c', rfl⟩ := own_form r1
  unfold Oper.wp
  simp [execOp, hop, resolve, invoke, builtin, hs, hx, hrun, Result.andThen]
  exact hK A' c' w' r1 r2 r3
theorem wpList_append_src {rest : List Oper} {Q : Exit → Act → World → Prop} (hgd : o.guard = none) (s x : Operand) (t : TypeId)
    (hop : o.op = .call { callee := .builtin .append, args := #[s, x], argTypes := #[t, t] })
    (base : Nat) (e : TypeId) (i : TypeInfo) (z : Value) (size bytes : Nat) (ht : P.underlying t = some (.slice e)) (hi : P.info? e = some i) (hz : i.zero = some z)
    (hsize : i.size = size) (hby : i.bytes = bytes) (hzs : z.cells.size = size) (hsz : 0 < size)
    (v : Value) (n : Nat) (xs : List Value) (hs : a.eval s = v) (hown : w.ownsRow base e size v n xs)
    (A : Option Addr) (m c : Nat) (news : List Value) (hx : a.eval x = .slice A m c) (hl : news.length = m * size) (hsrc : ∀ ad, A = some ad → ∀ j u, news[j]? = some u → w.cell? (ad.add j) = some u) (hnil : A = none → m = 0) (h1 : ∀ u ∈ news, u.oneCell' = true)
    (h63 : n + m ≤ maxLen) (hbytes : (n + m) * bytes ≤ 140737488355328) (hbase : base ≤ w.heap.size) (q : Nat) (hq : n + m = q)
    (hK : ∀ A' c' w', w'.ownsRow base e size (.slice A' q c') q (xs ++ news) → w.grownBy w' v.ownBlock → ((Value.slice A' q c').ownBlock = v.ownBlock ∨ (Value.slice A' q c').ownBlock = some w.heap.size) → wpList P ops Q rest (a.put o.dst (.slice A' q c')) w') : wpList P ops Q (o :: rest) a w := by
  subst hq
  refine wpList_plain hgd fun K hK2 => ?_
  obtain ⟨v', w', hrun, r1, r2, r3⟩ := run_append_src (P := P) w base t o.type e i z size bytes ht hi hz hsize hby hzs hsz v n xs hown A m c news hl hsrc hnil h1 h63 hbytes hbase
  obtain ⟨A', c', rfl⟩ := own_form r1
  unfold Oper.wp
  simp [execOp, hop, resolve, invoke, builtin, hs, hx, hrun, Result.andThen]
  exact hK2 _ _ (hK A' c' w' r1 r2 r3)
end

set_option maxRecDepth 100000 in
set_option maxHeartbeats 1000000 in
theorem blocks_any (B g : Nat) (A : Option Addr) (c : Nat) (x : Ar) (w : World) (hC : PAt B w g A c x) (hl : x.l.length ≤ 1000) :
    Calls Try.prog 41 #[.pointer (some ⟨g, 0, none⟩)] w fun e w' => ∃ A' c', e = .returned (.slice A' x.l.length c') ∧ RowI w' w.heap.size A' c' (blk x.l) ∧ Below w.heap.size w w' := by
  obtain ⟨_, _, _, _, _, hs⟩ := pcells hC
  have hg := hC.glt
  obtain ⟨i0, hi0, hz0, hz1, hz2⟩ := info_parts infoI
  have HR := Lib.hid hC.row
  have hcap := own_cap hC.row
  unfold maxLen at hcap
  obtain ⟨xp, xn, xs, xm, xu, l⟩ := x
  dsimp only at *
  have Hbl := Lib.hid (length_blk l)
  clear hC
  go_enter Try.func41, Try.ntmps41
  go_wp2
  go_loopw [3, 11] (fun s i wr => ∃ (k : Nat) (A' : Option Addr) (c' : Nat), k ≤ l.length ∧ i = .int .i64 k ∧ s = .slice A' k c' ∧ wr.ownsRow w.heap.size 3 1 (.slice A' k c') k (intsV (blk (l.take k))) ∧ Below w.heap.size w wr) (fun _ i _ => l.length - (intOf i).toNat)
  case atStart => exact ⟨0, none, 0, Nat.zero_le _, rfl, rfl, World.ownsRow_nil _ _ _ _, Below.refl _ _⟩
  case round =>
    obtain ⟨k, A', c', hk, rfl, rfl, hrow, hB⟩ := hrel
    rename World => wr
    have HRo := Lib.hid hrow
    have HB := Lib.hid hB
    by_cases hlt : k < l.length
    · have hlti : (k : Int) < (l.length : Int) := by omega
      have hk0 : (0 : Int) ≤ (k : Int) := by omega
      have hz := hB.size
      obtain ⟨ab, hA, h3, h4, hb, _, c0, c1, _⟩ := ((show RowQ 74 w B A c l from HR.out).fresh hB).at_ hlt
      subst hA
      have Hst : Hid (intsV (blk (l.take k)) ++ [.int .i64 (rn l k).b] = intsV (blk (l.take (k + 1)))) := by unfold Hid; rw [blk_take hlt, intsV_append]; rfl
      generalize (rn l k).b = rb at c0 Hst
      generalize (rn l k).a = ra at c1
      have Hrow : Hid (((wr.alloc (.cells #[.int .i64 rb, .int .i64 ra] 74)).alloc (.cells #[.int .i64 rb] 3)).ownsRow w.heap.size 3 1 (.slice A' k c') k (intsV (blk (l.take k)))) := (hrow.alloc _).alloc _
      have Hnew : Hid (∀ ad, some (⟨wr.heap.size + 1, 0, none⟩ : Addr) = some ad → ∀ j u, [Value.int .i64 rb][j]? = some u → ((wr.alloc (.cells #[.int .i64 rb, .int .i64 ra] 74)).alloc (.cells #[.int .i64 rb] 3)).cell? (ad.add j) = some u) := fun ad e j u hu => by
        cases e
        have := World.news_of_block (heap_alloc_new (wr.alloc (.cells #[.int .i64 rb, .int .i64 ra] 74)) (.cells #[.int .i64 rb] 3)) j u hu
        simpa using this
      have Hold := Lib.hid hrow.lt
      clear hrow hB
      go_wp2_with (at_builtin; refine wpList_append_src rfl (.tmp 15) (.tmp 18) 31 rfl w.heap.size 3 i0 (.int .i64 0) 1 8 Try.underlying31 hi0 hz0 hz1 hz2 rfl (by decide) (.slice A' k c') k (intsV (blk (l.take k))) rfl Hrow.out (some ⟨wr.heap.size + 1, 0, none⟩) 1 1 [.int .i64 rb] rfl rfl Hnew.out (by intro h; cases h) (by intro u hu; simp at hu; subst hu; rfl) (by unfold maxLen; omega) (by omega) (by simp; omega) (k + 1) rfl ?_; intro A2 c2 w2 ho2 hg2 hor2; have HO2 := Lib.hid ho2; have HG2 := Lib.hid hg2; clear ho2 hg2 hor2)
      go_roundw
      case rel =>
        refine ⟨k + 1, A2, c2, by omega, by go_num, rfl, by have := HO2.out; rw [Hst.out] at this; exact this, ?_⟩
        exact ((HB.out.alloc HB.out.size _).alloc (by simp; omega) _).grown HG2.out (by simp; omega) (fun j e => (Hold.out j e).1)
      case measure => simp [intOf]; omega
    · obtain rfl : k = l.length := by omega
      have hlti : ¬ (l.length : Int) < (l.length : Int) := by omega
      clear hrow hB
      go_wp2
      go_ret
      have hr := HRo.out
      rw [List.take_length] at hr
      refine ⟨A', c', rfl, ?_, HB.out⟩
      unfold RowI
      rw [Hbl.out]
      exact hr


theorem bestK_mem (f : Int → Int → Bool) (l : List Int) {k : Nat} (h0 : 0 < k) (hk : k ≤ l.length) : bestK f l k ∈ l := by
  induction k with
  | zero => omega
  | succ k ih =>
    unfold bestK
    by_cases h : k = 0 ∨ f (inn l k) (bestK f l k) = true
    · rw [if_pos h]; exact inn_mem (by omega)
    · rw [if_neg h]; exact ih (by omega) (by omega)

set_option maxRecDepth 100000 in
set_option maxHeartbeats 1000000 in
theorem best_less (A : Option Addr) (c : Nat) (l : List Int) (f : Int → Int → Bool) (w : World) (hl : l.length ≤ 1000) (hI : Ints w w.heap.size A l)
    (hF : ∀ (x y : Int) W, x ∈ l → y ∈ l → Below w.heap.size w W → Calls Try.prog 82 #[.int .i64 x, .int .i64 y] W fun e w' => e = .returned (.bool (f x y)) ∧ Below W.heap.size W w') :
    Calls Try.prog 75 #[.slice A l.length c, .func (.func 82) #[] #[]] w fun e w' => e = .returned (.tuple #[.int .i64 (bestL f l), .bool (!l.isEmpty)]) ∧ Below w.heap.size w w' := by
  have HI := Lib.hid hI
  have HF := Lib.hid hF
  have Hemp : Hid ((!l.isEmpty) = decide (0 < l.length)) := by unfold Hid; cases l <;> simp
  clear hI hF
  unfold bestL
  rw [Hemp.out]
  clear Hemp
  go_enter Try.func75, Try.ntmps75
  go_wp2
  go_loopw [6, 11] (fun r q wr => ∃ k : Nat, k ≤ l.length ∧ q = .int .i64 k ∧ r = .int .i64 (bestK f l k) ∧ Below w.heap.size w wr) (fun _ q _ => l.length - (intOf q).toNat)
  case atStart => exact ⟨0, Nat.zero_le _, rfl, rfl, Below.refl _ _⟩
  case round =>
    obtain ⟨k, hk, rfl, rfl, hB⟩ := hrel
    rename World => wr
    have HB := Lib.hid hB
    by_cases hlt : k < l.length
    · have hlti : (k : Int) < (l.length : Int) := by omega
      have hk0 : (0 : Int) ≤ (k : Int) := by omega
      obtain ⟨ab, off, hA, hb, c0⟩ := HI.out.at_ hlt
      subst hA
      have c1 := (hB.cell (p := ⟨ab, off + k, none⟩) hb).trans c0
      clear c0 hB
      have Hs : Hid (bestK f l (k + 1) = if k = 0 ∨ f (inn l k) (bestK f l k) = true then inn l k else bestK f l k) := rfl
      by_cases h0 : k = 0
      · have Hs2 : Hid (bestK f l (k + 1) = inn l k) := by unfold Hid; rw [Hs.out, if_pos (.inl h0)]
        subst h0
        clear Hs
        rw [Nat.add_zero] at c1
        generalize inn l 0 = x at *
        generalize hbk : bestK f l 0 = y at *
        clear hbk
        go_wp2
        go_roundw
        case rel => exact ⟨0 + 1, by omega, by go_num, by rw [Hs2.out], HB.out⟩
        case measure => simp [intOf]; omega
      · have hke : ((k : Int) == 0) = false := by rw [beq_eq_false_iff_ne]; omega
        have hke2 : (k == 0) = false := by simpa using h0
        have HE := Lib.hid (fun W => HF.out (inn l k) (bestK f l k) W (inn_mem hlt) (bestK_mem f l (by omega) hk))
        cases ht : f (inn l k) (bestK f l k) with
        | true =>
          have Hs2 : Hid (bestK f l (k + 1) = inn l k) := by unfold Hid; rw [Hs.out, if_pos (.inr ht)]
          rw [ht] at HE
          clear ht Hs h0
          generalize inn l k = x at *
          generalize bestK f l k = y at *
          go_wp2_with (refine (HE.out _ HB.out).mono ?_; rintro e w1 ⟨rfl, hb1⟩; have HB1 := Lib.hid hb1; clear hb1)
          go_roundw
          case rel => exact ⟨k + 1, by omega, by go_num, by rw [Hs2.out], HB.out.trans (HB1.out.mono HB.out.size)⟩
          case measure => simp [intOf]; omega
        | false =>
          have Hs2 : Hid (bestK f l (k + 1) = bestK f l k) := by unfold Hid; rw [Hs.out, if_neg (by rw [ht]; simp [h0])]
          rw [ht] at HE
          clear ht Hs h0
          generalize inn l k = x at *
          obtain ⟨y, hy⟩ : ∃ y, y = bestK f l k := ⟨_, rfl⟩
          rw [← hy] at HE Hs2 ⊢
          clear hy
          go_wp2_with (refine (HE.out _ HB.out).mono ?_; rintro e w1 ⟨rfl, hb1⟩; have HB1 := Lib.hid hb1; clear hb1)
          go_roundw
          case rel => exact ⟨k + 1, by omega, by go_num, by rw [Hs2.out], HB.out.trans (HB1.out.mono HB.out.size)⟩
          case measure => simp [intOf]; omega
    · obtain rfl : k = l.length := by omega
      have hlti : ¬ (l.length : Int) < (l.length : Int) := by omega
      clear hB
      go_wp2
      go_ret2
      exact ⟨by simp, HB.out⟩

set_option maxRecDepth 100000 in
set_option maxHeartbeats 1000000 in
theorem best_greater (A : Option Addr) (c : Nat) (l : List Int) (f : Int → Int → Bool) (w : World) (hl : l.length ≤ 1000) (hI : Ints w w.heap.size A l)
    (hF : ∀ (x y : Int) W, x ∈ l → y ∈ l → Below w.heap.size w W → Calls Try.prog 90 #[.int .i64 x, .int .i64 y] W fun e w' => e = .returned (.bool (f x y)) ∧ Below W.heap.size W w') :
    Calls Try.prog 75 #[.slice A l.length c, .func (.func 90) #[] #[]] w fun e w' => e = .returned (.tuple #[.int .i64 (bestL f l), .bool (!l.isEmpty)]) ∧ Below w.heap.size w w' := by
  have HI := Lib.hid hI
  have HF := Lib.hid hF
  have Hemp : Hid ((!l.isEmpty) = decide (0 < l.length)) := by unfold Hid; cases l <;> simp
  clear hI hF
  unfold bestL
  rw [Hemp.out]
  clear Hemp
  go_enter Try.func75, Try.ntmps75
  go_wp2
  go_loopw [6, 11] (fun r q wr => ∃ k : Nat, k ≤ l.length ∧ q = .int .i64 k ∧ r = .int .i64 (bestK f l k) ∧ Below w.heap.size w wr) (fun _ q _ => l.length - (intOf q).toNat)
  case atStart => exact ⟨0, Nat.zero_le _, rfl, rfl, Below.refl _ _⟩
  case round =>
    obtain ⟨k, hk, rfl, rfl, hB⟩ := hrel
    rename World => wr
    have HB := Lib.hid hB
    by_cases hlt : k < l.length
    · have hlti : (k : Int) < (l.length : Int) := by omega
      have hk0 : (0 : Int) ≤ (k : Int) := by omega
      obtain ⟨ab, off, hA, hb, c0⟩ := HI.out.at_ hlt
      subst hA
      have c1 := (hB.cell (p := ⟨ab, off + k, none⟩) hb).trans c0
      clear c0 hB
      have Hs : Hid (bestK f l (k + 1) = if k = 0 ∨ f (inn l k) (bestK f l k) = true then inn l k else bestK f l k) := rfl
      by_cases h0 : k = 0
      · have Hs2 : Hid (bestK f l (k + 1) = inn l k) := by unfold Hid; rw [Hs.out, if_pos (.inl h0)]
        subst h0
        clear Hs
        rw [Nat.add_zero] at c1
        generalize inn l 0 = x at *
        generalize hbk : bestK f l 0 = y at *
        clear hbk
        go_wp2
        go_roundw
        case rel => exact ⟨0 + 1, by omega, by go_num, by rw [Hs2.out], HB.out⟩
        case measure => simp [intOf]; omega
      · have hke : ((k : Int) == 0) = false := by rw [beq_eq_false_iff_ne]; omega
        have hke2 : (k == 0) = false := by simpa using h0
        have HE := Lib.hid (fun W => HF.out (inn l k) (bestK f l k) W (inn_mem hlt) (bestK_mem f l (by omega) hk))
        cases ht : f (inn l k) (bestK f l k) with
        | true =>
          have Hs2 : Hid (bestK f l (k + 1) = inn l k) := by unfold Hid; rw [Hs.out, if_pos (.inr ht)]
          rw [ht] at HE
          clear ht Hs h0
          generalize inn l k = x at *
          generalize bestK f l k = y at *
          go_wp2_with (refine (HE.out _ HB.out).mono ?_; rintro e w1 ⟨rfl, hb1⟩; have HB1 := Lib.hid hb1; clear hb1)
          go_roundw
          case rel => exact ⟨k + 1, by omega, by go_num, by rw [Hs2.out], HB.out.trans (HB1.out.mono HB.out.size)⟩
          case measure => simp [intOf]; omega
        | false =>
          have Hs2 : Hid (bestK f l (k + 1) = bestK f l k) := by unfold Hid; rw [Hs.out, if_neg (by rw [ht]; simp [h0])]
          rw [ht] at HE
          clear ht Hs h0
          generalize inn l k = x at *
          obtain ⟨y, hy⟩ : ∃ y, y = bestK f l k := ⟨_, rfl⟩
          rw [← hy] at HE Hs2 ⊢
          clear hy
          go_wp2_with (refine (HE.out _ HB.out).mono ?_; rintro e w1 ⟨rfl, hb1⟩; have HB1 := Lib.hid hb1; clear hb1)
          go_roundw
          case rel => exact ⟨k + 1, by omega, by go_num, by rw [Hs2.out], HB.out.trans (HB1.out.mono HB.out.size)⟩
          case measure => simp [intOf]; omega
    · obtain rfl : k = l.length := by omega
      have hlti : ¬ (l.length : Int) < (l.length : Int) := by omega
      clear hB
      go_wp2
      go_ret2
      exact ⟨by simp, HB.out⟩

set_option maxRecDepth 100000 in
set_option maxHeartbeats 1000000 in
theorem best_near (A : Option Addr) (c : Nat) (l : List Int) (cb : Nat) (f : Int → Int → Bool) (w : World) (hl : l.length ≤ 1000) (hI : Ints w w.heap.size A l)
    (hF : ∀ (x y : Int) W, x ∈ l → y ∈ l → Below w.heap.size w W → Calls Try.prog 76 #[.int .i64 x, .int .i64 y, .pointer (some ⟨cb, 0, none⟩)] W fun e w' => e = .returned (.bool (f x y)) ∧ Below W.heap.size W w') :
    Calls Try.prog 75 #[.slice A l.length c, .func (.func 76) #[] #[.pointer (some ⟨cb, 0, none⟩)]] w fun e w' => e = .returned (.tuple #[.int .i64 (bestL f l), .bool (!l.isEmpty)]) ∧ Below w.heap.size w w' := by
  have HI := Lib.hid hI
  have HF := Lib.hid hF
  have Hemp : Hid ((!l.isEmpty) = decide (0 < l.length)) := by unfold Hid; cases l <;> simp
  clear hI hF
  unfold bestL
  rw [Hemp.out]
  clear Hemp
  go_enter Try.func75, Try.ntmps75
  go_wp2
  go_loopw [6, 11] (fun r q wr => ∃ k : Nat, k ≤ l.length ∧ q = .int .i64 k ∧ r = .int .i64 (bestK f l k) ∧ Below w.heap.size w wr) (fun _ q _ => l.length - (intOf q).toNat)
  case atStart => exact ⟨0, Nat.zero_le _, rfl, rfl, Below.refl _ _⟩
  case round =>
    obtain ⟨k, hk, rfl, rfl, hB⟩ := hrel
    rename World => wr
    have HB := Lib.hid hB
    by_cases hlt : k < l.length
    · have hlti : (k : Int) < (l.length : Int) := by omega
      have hk0 : (0 : Int) ≤ (k : Int) := by omega
      obtain ⟨ab, off, hA, hb, c0⟩ := HI.out.at_ hlt
      subst hA
      have c1 := (hB.cell (p := ⟨ab, off + k, none⟩) hb).trans c0
      clear c0 hB
      have Hs : Hid (bestK f l (k + 1) = if k = 0 ∨ f (inn l k) (bestK f l k) = true then inn l k else bestK f l k) := rfl
      by_cases h0 : k = 0
      · have Hs2 : Hid (bestK f l (k + 1) = inn l k) := by unfold Hid; rw [Hs.out, if_pos (.inl h0)]
        subst h0
        clear Hs
        rw [Nat.add_zero] at c1
        generalize inn l 0 = x at *
        generalize hbk : bestK f l 0 = y at *
        clear hbk
        go_wp2
        go_roundw
        case rel => exact ⟨0 + 1, by omega, by go_num, by rw [Hs2.out], HB.out⟩
        case measure => simp [intOf]; omega
      · have hke : ((k : Int) == 0) = false := by rw [beq_eq_false_iff_ne]; omega
        have hke2 : (k == 0) = false := by simpa using h0
        have HE := Lib.hid (fun W => HF.out (inn l k) (bestK f l k) W (inn_mem hlt) (bestK_mem f l (by omega) hk))
        cases ht : f (inn l k) (bestK f l k) with
        | true =>
          have Hs2 : Hid (bestK f l (k + 1) = inn l k) := by unfold Hid; rw [Hs.out, if_pos (.inr ht)]
          rw [ht] at HE
          clear ht Hs h0
          generalize inn l k = x at *
          generalize bestK f l k = y at *
          go_wp2_with (refine (HE.out _ HB.out).mono ?_; rintro e w1 ⟨rfl, hb1⟩; have HB1 := Lib.hid hb1; clear hb1)
          go_roundw
          case rel => exact ⟨k + 1, by omega, by go_num, by rw [Hs2.out], HB.out.trans (HB1.out.mono HB.out.size)⟩
          case measure => simp [intOf]; omega
        | false =>
          have Hs2 : Hid (bestK f l (k + 1) = bestK f l k) := by unfold Hid; rw [Hs.out, if_neg (by rw [ht]; simp [h0])]
          rw [ht] at HE
          clear ht Hs h0
          generalize inn l k = x at *
          obtain ⟨y, hy⟩ : ∃ y, y = bestK f l k := ⟨_, rfl⟩
          rw [← hy] at HE Hs2 ⊢
          clear hy
          go_wp2_with (refine (HE.out _ HB.out).mono ?_; rintro e w1 ⟨rfl, hb1⟩; have HB1 := Lib.hid hb1; clear hb1)
          go_roundw
          case rel => exact ⟨k + 1, by omega, by go_num, by rw [Hs2.out], HB.out.trans (HB1.out.mono HB.out.size)⟩
          case measure => simp [intOf]; omega
    · obtain rfl : k = l.length := by omega
      have hlti : ¬ (l.length : Int) < (l.length : Int) := by omega
      clear hB
      go_wp2
      go_ret2
      exact ⟨by simp, HB.out⟩
end Go.Proofs.Ytpelocpjfmmceaa
