/- The document's own cache: appends, Fork, List, Drop. -/
import Derived.Test.YthibnnllecdpaaaR
import Derived.Maps.AppendAt
namespace Go.Proofs.Ythibnnllecdpaaa
open Go.RowKit

section
variable {P : Program} {ops : Array Oper} {o : Oper} {a : Act} {w : World}
/-- append of a slice that may be nil onto a row of the call's own -/
theorem run_append_src (w : World) (base : Nat) (t ty e : TypeId) (i : TypeInfo) (z : Value) (size bytes : Nat) (ht : P.underlying t = some (.slice e)) (hi : P.info? e = some i) (hz : i.zero = some z)
    (hsize : i.size = size) (hby : i.bytes = bytes) (hzs : z.cells.size = size) (hsz : 0 < size)
    (v : Value) (n : Nat) (xs : List Value) (hown : w.ownsRow base e size v n xs)
    (A : Option Addr) (m c : Nat) (news : List Value) (hl : news.length = m * size) (hsrc : ∀ ad, A = some ad → ∀ j u, news[j]? = some u → w.cell? (ad.add j) = some u) (hnil : A = none → m = 0) (h1 : ∀ u ∈ news, u.oneCell' = true)
    (h63 : n + m ≤ maxLen) (hbytes : (n + m) * bytes ≤ 140737488355328) (hbase : base ≤ w.heap.size) :
    ∃ v' w', (Builtin.append_ #[t, t] ty #[v, .slice A m c]).run P w = .ok v' w' ∧ w'.ownsRow base e size v' (n + m) (xs ++ news) ∧ w.grownBy w' v.ownBlock ∧ (v'.ownBlock = v.ownBlock ∨ v'.ownBlock = some w.heap.size) := by
  rcases A with _ | ad
  · have hm := hnil rfl
    subst hm
    have hn : news = [] := List.eq_nil_of_length_eq_zero (by simpa using hl)
    subst hn
    refine ⟨v, w, ?_, by simpa using hown, World.grownBy.refl w _, .inl rfl⟩
    rcases hown.2 with ⟨rfl, rfl⟩ | ⟨g, cap, cur, rfl, _, _, hnc, _⟩
    · simp [Builtin.append_, run_underlying ht, sizeOf, typeInfo, hi, Builtin.lenOf, Builtin.firstCells]
    · simp [Builtin.append_, run_underlying ht, sizeOf, typeInfo, hi, Builtin.lenOf, Builtin.firstCells, hnc, storeCells]
  · obtain ⟨v', w', hr, h2, h3, _, h5⟩ := run_append_own_at (P := P) w base t ty e i z size bytes ht hi hz hsize hby hzs hsz v n xs hown ad m c news hl (hsrc ad rfl) h1 h63 hbytes hbase
    exact ⟨v', w', hr, h2, h3, h5⟩
theorem step_append_src {K : Act → World → Prop} {Q : Exit → Act → World → Prop} {EE : Prop} (hgd : o.guard = none) (s x : Operand) (t : TypeId)
    (hop : o.op = .call { callee := .builtin .append, args := #[s, x], argTypes := #[t, t] })
    (base : Nat) (e : TypeId) (i : TypeInfo) (z : Value) (size bytes : Nat) (ht : P.underlying t = some (.slice e)) (hi : P.info? e = some i) (hz : i.zero = some z)
    (hsize : i.size = size) (hby : i.bytes = bytes) (hzs : z.cells.size = size) (hsz : 0 < size)
    (v : Value) (n : Nat) (xs : List Value) (hs : a.eval s = v) (hown : w.ownsRow base e size v n xs)
    (A : Option Addr) (m c : Nat) (news : List Value) (hx : a.eval x = .slice A m c) (hl : news.length = m * size) (hsrc : ∀ ad, A = some ad → ∀ j u, news[j]? = some u → w.cell? (ad.add j) = some u) (hnil : A = none → m = 0) (h1 : ∀ u ∈ news, u.oneCell' = true)
    (h63 : n + m ≤ maxLen) (hbytes : (n + m) * bytes ≤ 140737488355328) (hbase : base ≤ w.heap.size) (q : Nat) (hq : n + m = q)
    (hK : ∀ A' c' w', w'.ownsRow base e size (.slice A' q c') q (xs ++ news) → w.grownBy w' v.ownBlock → ((Value.slice A' q c').ownBlock = v.ownBlock ∨ (Value.slice A' q c').ownBlock = some w.heap.size) → K (a.put o.dst (.slice A' q c')) w') :
    if Region.wanted o (yielded ops a.tmps) = true then Oper.wp P o a w K Q else EE := by
  subst hq
  have hw : Region.wanted o (yielded ops a.tmps) = true := by simp [Region.wanted, hgd]
  rw [if_pos hw]
  obtain ⟨v', w', hrun, r1, r2, r3⟩ := run_append_src (P := P) w base t o.type e i z size bytes ht hi hz hsize hby hzs hsz v n xs hown A m c news hl hsrc hnil h1 h63 hbytes hbase
  obtain ⟨A', c', rfl⟩ := own_form r1
  unfold Oper.wp
  simp [execOp, hop, resolve, invoke, builtin, hs, hx, hrun, Result.andThen]
  exact hK A' c' w' r1 r2 r3
theorem wpList_append_src {rest : List Oper} {Q : Exit → Act → World → Prop} (hgd : o.guard = none) (s x : Operand) (t : TypeId)
    (hop : o.op = .call { callee := .builtin .append, args := #[s, x], argTypes := #[t, t] })
    (base : Nat) (e : TypeId) (i : TypeInfo) (z : Value) (size bytes : Nat) (ht : P.underlying t = some (.slice e)) (hi : P.info? e = some i) (hz : i.zero = some z)
    (hsize : i.size = size) (hby : i.bytes = bytes) (hzs : z.cells.size = size) (hsz : 0 < size)
    (v : Value) (n : Nat) (xs : List Value) (hs : a.eval s = v) (hown : w.ownsRow base e size v n xs)
    (A : Option Addr) (m c : Nat) (news : List Value) (hx : a.eval x = .slice A m c) (hl : news.length = m * size) (hsrc : ∀ ad, A = some ad → ∀ j u, news[j]? = some u → w.cell? (ad.add j) = some u) (hnil : A = none → m = 0) (h1 : ∀ u ∈ news, u.oneCell' = true)
    (h63 : n + m ≤ maxLen) (hbytes : (n + m) * bytes ≤ 140737488355328) (hbase : base ≤ w.heap.size) (q : Nat) (hq : n + m = q)
    (hK : ∀ A' c' w', w'.ownsRow base e size (.slice A' q c') q (xs ++ news) → w.grownBy w' v.ownBlock → ((Value.slice A' q c').ownBlock = v.ownBlock ∨ (Value.slice A' q c').ownBlock = some w.heap.size) → wpList P ops Q rest (a.put o.dst (.slice A' q c')) w') : wpList P ops Q (o :: rest) a w := by
  subst hq
  refine wpList_plain hgd fun K hK2 => ?_
  obtain ⟨v', w', hrun, r1, r2, r3⟩ := run_append_src (P := P) w base t o.type e i z size bytes ht hi hz hsize hby hzs hsz v n xs hown A m c news hl hsrc hnil h1 h63 hbytes hbase
  obtain ⟨A', c', rfl⟩ := own_form r1
  unfold Oper.wp
  simp [execOp, hop, resolve, invoke, builtin, hs, hx, hrun, Result.andThen]
  exact hK2 _ _ (hK A' c' w' r1 r2 r3)
end
theorem info102 : (Try.prog.info? 102).map (fun i => (i.zero, i.size, i.bytes)) = some (some zeroH, 4, 24) := by kernel_rfl
/-- the cells of a whole row as a source -/
theorem row_src {E : TypeId} {B : Nat} {w : World} {A : Option Addr} {n c : Nat} {xs : List Value} (h : w.ownsRow B E 4 (.slice A n c) n xs) : (∀ ad, A = some ad → ∀ j u, xs[j]? = some u → w.cell? (ad.add j) = some u) ∧ (A = none → n = 0) := by
  rcases h.2 with ⟨q, h0⟩ | ⟨k, cap, cur, q, _⟩
  · obtain ⟨rfl, _, _⟩ := Value.slice.inj q
    exact ⟨fun ad e => (by cases e), fun _ => h0⟩
  · obtain ⟨rfl, _, _⟩ := Value.slice.inj q
    refine ⟨fun ad e j u hu => ?_, fun e => by cases e⟩
    cases e
    have hlt := (List.getElem?_eq_some_iff.1 hu).1
    rw [h.1] at hlt
    rw [Addr.add_lit, Nat.zero_add, h.cellAt j hlt]
    exact hu
/-- a row's end -/
theorem tail_src {E : TypeId} {B : Nat} {w : World} {b n c k : Nat} {l : List H} (h : w.ownsRow B E 4 (.slice (some ⟨b, 0, none⟩) n c) n (flat l)) (hk : k ≤ n) :
    ∀ ad, (if c = k then some (⟨b, 0, none⟩ : Addr) else some ⟨b, k * 4, none⟩) = some ad → ∀ j u, ((flat l).drop (k * 4))[j]? = some u → w.cell? (ad.add j) = some u := by
  have h0 := own_room h
  intro ad e j u hu
  have hlt := (List.getElem?_eq_some_iff.1 hu).1
  rw [List.length_drop, h.1] at hlt
  rw [List.getElem?_drop] at hu
  by_cases hc : c = k
  · omega
  · rw [if_neg hc] at e
    cases e
    rw [Addr.add_lit, h.cellAt _ (by omega)]
    exact hu
set_option maxRecDepth 100000 in
set_option maxHeartbeats 1000000 in
theorem rfork_any (B g : Nat) (v : Value) (m : Int) (l : List H) (w : World) (hC : CacheAt 77 102 B w g v m l) (hl : l.length ≤ 1000) :
    Calls Try.prog 24 #[.pointer (some ⟨g, 0, none⟩)] w fun e w' => ∃ h v', e = .returned (.pointer (some ⟨h, 0, none⟩)) ∧ CacheAt 77 102 w.heap.size w' h v' m l ∧ Below w.heap.size w w' := by
  have hs := hC.slot
  have hm := hC.most
  have hg := hC.glt
  obtain ⟨i0, hi0, hz0, hz1, hz2⟩ := info_parts info102
  obtain ⟨A, cap, hv, _, _⟩ := hC.form
  have HC := Lib.hid hC
  subst hv
  have hB0 : Below w.heap.size w (w.drew.alloc (.cells #[] 102)) := ((Below.refl _ _).drew).alloc (Nat.le_refl _) _
  have Hsrc := Lib.hid (row_src ((HC.out.fresh hB0).row))
  have Hown : Hid ((w.drew.alloc (.cells #[] 102)).ownsRow w.heap.size 102 4 (.slice (some ⟨w.heap.size, 0, none⟩) 0 0) 0 []) := World.ownsRow_made w.drew #[] 0 (Nat.le_refl _) (by simp) (by simp)
  have HB0 := Lib.hid hB0
  have Hlf := Lib.hid (length_flat l)
  have Hone := Lib.hid (flat_one l)
  have hne0 := World.new_ne w ⟨g, 0, none⟩ hm
  have hne1 := World.new_ne w ⟨g, 1, none⟩ hs
  clear hC hB0
  go_enter Try.func24, Try.ntmps24
  go_wp2
  go_region_held3 (fun w' => w'.cell? ⟨g, 0, none⟩ = some (.int .i64 m) ∧ w'.cell? ⟨g, 1, none⟩ = some (.slice A l.length cap)) (first | exact X1.out | go_keep)
    ((refine step_append_src rfl (.tmp 9) (.tmp 13) 75 rfl w.heap.size 102 i0 zeroH 4 24 Try.underlying75 hi0 hz0 hz1 hz2 rfl (by decide) _ 0 [] rfl Hown.out A l.length cap (flat l) rfl Hlf.out Hsrc.out.1 Hsrc.out.2 Hone.out (by unfold maxLen; omega) (by omega) (by simp) l.length (by omega) ?_; intro A1 c1 w1 ho1 hg1 hor1; have hBw1 := HB0.out.grown hg1 (by simp) (fun j e => by cases e; exact Nat.le_refl _); have hC1 := HC.out.fresh hBw1; have X1 : Hid (w1.cell? ⟨g, 0, none⟩ = some (.int .i64 m) ∧ w1.cell? ⟨g, 1, none⟩ = some (.slice A l.length cap)) := ⟨hC1.most, hC1.slot⟩; have HO1 := Lib.hid ho1; clear ho1 hg1 hor1 hC1))
  all_goals
    go_wp2
    go_ret
    refine ⟨_, _, rfl, ⟨heap_alloc_new _ _, HO1.out.alloc _, by decide, hBw1.size⟩, hBw1.alloc hBw1.size _⟩
def ListOf (w : World) (l : List H) (e : Ending) (w' : World) : Prop := ∃ A c, e = .returned (.slice A l.length c) ∧ Ints w' A (blocks l) ∧ Below w.heap.size w w'
theorem rlist_step {l : List H} {k : Nat} (hk : k < l.length) : intsV ((blocks l).take k) ++ [.int .i64 (nthH l k).b] = intsV ((blocks l).take (k + 1)) := by
  have hb : k < (blocks l).length := by simpa [blocks] using hk
  rw [List.take_succ_eq_append_getElem hb]
  unfold intsV
  rw [List.map_append, nthH_lt hk]
  simp [blocks]
set_option maxRecDepth 100000 in
set_option maxHeartbeats 1000000 in
theorem rlist_any (B g : Nat) (v : Value) (m : Int) (l : List H) (w : World) (hC : CacheAt 77 102 B w g v m l) (hl : l.length ≤ 1000) :
    Calls Try.prog 34 #[.pointer (some ⟨g, 0, none⟩)] w (ListOf w l) := by
  have hs := hC.slot
  have hg := hC.glt
  obtain ⟨i0, hi0, hz0, hz1, hz2⟩ := info_parts info3
  obtain ⟨A, cap, rfl, hc1, hc2⟩ := hC.form
  unfold maxLen at hc2
  have HC := Lib.hid hC
  clear hC
  have hbl : Hid ((blocks l).length = l.length) := by simp [blocks, Hid]
  go_enter Try.func34, Try.ntmps34
  go_wp2
  go_loopw [3, 4] (fun s i wr => ∃ (k : Nat) (A' : Option Addr) (c' : Nat), k ≤ l.length ∧ i = .int .i64 k ∧ s = .slice A' k c' ∧ wr.ownsRow w.heap.size 3 1 (.slice A' k c') k (intsV ((blocks l).take k)) ∧ Below w.heap.size w wr) (fun _ i _ => l.length - (intOf i).toNat)
  case atStart => exact ⟨0, none, 0, Nat.zero_le _, rfl, rfl, World.ownsRow_nil _ _ _ _, Below.refl _ _⟩
  case round =>
    obtain ⟨k, A', c', hk, rfl, rfl, hrow, hB⟩ := hrel
    rename World => wr
    have HR := Lib.hid hrow
    have HB := Lib.hid hB
    have hsr : wr.cell? ⟨g, 1, none⟩ = some (.slice A l.length cap) := (HC.out.fresh hB).slot
    by_cases hlt : k < l.length
    · have hlti : (k : Int) < (l.length : Int) := by omega
      have hk0 : (0 : Int) ≤ (k : Int) := by omega
      have hz := hB.size
      obtain ⟨b, cap', hv, h1, h2, hb, _, c0, c1, c2, c3, _⟩ := row_at ((HC.out.fresh hB).row) hlt
      cases hv
      have Hst := Lib.hid (rlist_step hlt)
      generalize (nthH l k).b = y at c0 Hst
      have Hrow := Lib.hid (hrow.alloc (.cells #[.int .i64 y] 3))
      have Hnew : Hid (∀ ad, some (⟨wr.heap.size, 0, none⟩ : Addr) = some ad → ∀ j u, [Value.int .i64 y][j]? = some u → (wr.alloc (.cells #[.int .i64 y] 3)).cell? (ad.add j) = some u) := fun ad e j u hu => by
        cases e
        exact World.news_of_block (heap_alloc_new wr _) j u hu
      have Hold := Lib.hid hrow.lt
      clear hrow hB
      go_wp2_with (at_builtin; refine wpList_append_src rfl (.tmp 18) (.tmp 27) 38 rfl w.heap.size 3 i0 (.int .i64 0) 1 8 Try.underlying38 hi0 hz0 hz1 hz2 rfl (by decide) (.slice A' k c') k (intsV ((blocks l).take k)) rfl Hrow.out (some ⟨wr.heap.size, 0, none⟩) 1 1 [.int .i64 y] rfl rfl Hnew.out (fun e => by cases e) (by intro u hu; rw [List.mem_singleton] at hu; rw [hu]; rfl) (by unfold maxLen; omega) (by omega) (by simp; omega) (k + 1) rfl ?_; intro A2 c2 w2 ho2 hg2 hor2; have HO2 := Lib.hid ho2; have HG2 := Lib.hid hg2; clear ho2 hg2 hor2)
      go_roundw
      case rel =>
        refine ⟨k + 1, A2, c2, by omega, by go_num, rfl, by have := HO2.out; rw [Hst.out] at this; exact this, ?_⟩
        exact (HB.out.alloc HB.out.size _).grown HG2.out (by simp; omega) (fun j e => (Hold.out j e).1)
      case measure => simp [intOf]; omega
    · obtain rfl : k = l.length := by omega
      have hlti : ¬ (l.length : Int) < (l.length : Int) := by omega
      go_wp2
      go_ret
      have hr := HR.out
      rw [List.take_of_length_le (by rw [hbl.out]; omega)] at hr
      obtain ⟨A2, c2, e, hI⟩ := own_ints hr
      obtain ⟨rfl, _, _⟩ := Value.slice.inj e
      exact ⟨_, _, rfl, hI, HB.out⟩
end Go.Proofs.Ythibnnllecdpaaa
