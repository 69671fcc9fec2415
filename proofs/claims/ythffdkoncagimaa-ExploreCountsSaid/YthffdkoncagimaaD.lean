/- Rows of numbers of one's own; a set's members. -/
import Derived.Test.YthffdkoncagimaaC
import Derived.Test.YthffdkoncagimaaGYG
import Derived.Deep.AppendLies
set_option linter.unusedVariables false
set_option linter.unusedSimpArgs false
namespace Go.Proofs.Ythffdkoncagimaa
open Go.RowKit
/-- which block a slice lies in -/
def own (A : Option Addr) : Option Nat := A.map (·.block)
theorem own_eq (A : Option Addr) (n c : Nat) : (Value.slice A n c).ownBlock = own A := by cases A <;> rfl
theorem own_form {w : World} {B n size : Nat} {E : TypeId} {v : Value} {xs : List Value} (h : w.ownsRow B E size v n xs) : ∃ A c, v = .slice A n c := by
  rcases h.2 with ⟨rfl, hn⟩ | ⟨g, cap, cur, rfl, _⟩
  · exact ⟨none, 0, by rw [hn]⟩
  · exact ⟨_, cap, rfl⟩
theorem own_cap {w : World} {B size : Nat} {E : TypeId} {A : Option Addr} {n c : Nat} {xs : List Value} (h : w.ownsRow B E size (.slice A n c) n xs) : n ≤ c ∧ c ≤ maxLen := by
  rcases h.2 with ⟨q, q0⟩ | ⟨g, cap, cur, q, hB, hg, h1, h2, h3, h4⟩
  · obtain ⟨_, h1, h2⟩ := Value.slice.inj q
    rw [q0]; exact ⟨Nat.zero_le _, by omega⟩
  · obtain ⟨_, h3, h5⟩ := Value.slice.inj q
    subst h5; exact ⟨h1, h2⟩
theorem length_intsV (l : List Int) : (intsV l).length = l.length := by simp [intsV]
theorem intsV_append (a b : List Int) : intsV (a ++ b) = intsV a ++ intsV b := by simp [intsV]
theorem intsV_at {l : List Int} {k : Nat} (h : k < l.length) : (intsV l)[k]? = some (.int .i64 (nth l k)) := by
  unfold intsV; rw [List.getElem?_map, List.getElem?_eq_getElem h, nth_lt h]; rfl
def RowI (w : World) (B : Nat) (A : Option Addr) (c : Nat) (l : List Int) : Prop := w.ownsRow B 3 1 (.slice A l.length c) l.length (intsV l)
theorem RowI.ints {w : World} {B : Nat} {A : Option Addr} {c : Nat} {l : List Int} (h : RowI w B A c l) : Ints w w.heap.size A l := fun h0 => by
  rcases h.2 with ⟨q, hn⟩ | ⟨g, cap, cur, q, _, hg, hnc, hcm, _⟩
  · omega
  · have e := (Value.slice.inj q).1
    subst e
    refine ⟨g, 0, rfl, (World.ownsRow.lt h g rfl).2, fun j hj => ?_⟩
    rw [Nat.zero_add, World.ownsRow.cellAt h j (by omega), intsV_at hj]
theorem RowI.fresh {w w' : World} {B : Nat} {A : Option Addr} {c : Nat} {l : List Int} (h : RowI w B A c l) (hb : Below w.heap.size w w') : RowI w' B A c l := own_lay h hb
theorem natsI_snoc (l : List Nat) (x : Nat) : natsI (l ++ [x]) = natsI l ++ [(x : Int)] := by simp [natsI]
theorem bdn {B : Nat} {a w : World} (h : Below B a w) (n : Nat) : Below B a (w.drewN n) := ⟨h.os, h.tape, h.output, h.size, h.block⟩
section
variable {P : Program} {ops : Array Oper} {o : Oper} {a : Act} {w : World}
/-- append of a slice that may be nil onto a row of the call's own -/
theorem run_append_src (w : World) (base : Nat) (t ty e : TypeId) (i : TypeInfo) (z : Value) (size bytes : Nat) (ht : P.underlying t = some (.slice e)) (hi : P.info? e = some i) (hz : i.zero = some z)
    (hsize : i.size = size) (hby : i.bytes = bytes) (hzs : z.cells.size = size) (hsz : 0 < size)
    (v : Value) (n : Nat) (xs : List Value) (hown : w.ownsRow base e size v n xs)
    (A : Option Addr) (m c : Nat) (news : List Value) (hl : news.length = m * size) (hsrc : ∀ ad, A = some ad → ∀ j u, news[j]? = some u → w.cell? (ad.add j) = some u) (hnil : A = none → m = 0) (h1 : ∀ u ∈ news, u.oneCell' = true)
    (h63 : n + m ≤ maxLen) (hbytes : (n + m) * bytes ≤ 140737488355328) (hbase : base ≤ w.heap.size) :
    ∃ v' w', (Builtin.append_ #[t, t] ty #[v, .slice A m c]).run P w = .ok v' w' ∧ w'.ownsRow base e size v' (n + m) (xs ++ news) ∧ w.grownBy w' v.ownBlock ∧ (v'.ownBlock = v.ownBlock ∨ v'.ownBlock = some w.heap.size) := by
  rcases A with _ | ad
  · have hm := hnil rfl
    subst hm
    have hn : news = [] := List.eq_nil_of_length_eq_zero (by simpa using hl)
    subst hn
    refine ⟨v, w, ?_, by simpa using hown, World.grownBy.refl w _, .inl rfl⟩
    rcases hown.2 with ⟨rfl, rfl⟩ | ⟨g, cap, cur, rfl, _, _, hnc, _⟩
    · simp [Builtin.append_, run_underlying ht, sizeOf, typeInfo, hi, Builtin.lenOf, Builtin.firstCells]
    · simp [Builtin.append_, run_underlying ht, sizeOf, typeInfo, hi, Builtin.lenOf, Builtin.firstCells, hnc, storeCells]
  · obtain ⟨v', w', hr, h2, h3, _, h5⟩ := run_append_own_at (P := P) w base t ty e i z size bytes ht hi hz hsize hby hzs hsz v n xs hown ad m c news hl (hsrc ad rfl) h1 h63 hbytes hbase
    exact ⟨v', w', hr, h2, h3, h5⟩
theorem step_append_src {K : Act → World → Prop} {Q : Exit → Act → World → Prop} {EE : Prop} (hgd : o.guard = none) (s x : Operand) (t : TypeId)
    (hop : o.op = .call { callee := .builtin .append, args := #[s, x], argTypes := #[t, t] })
    (base : Nat) (e : TypeId) (i : TypeInfo) (z : Value) (size bytes : Nat) (ht : P.underlying t = some (.slice e)) (hi : P.info? e = some i) (hz : i.zero = some z)
    (hsize : i.size = size) (hby : i.bytes = bytes) (hzs : z.cells.size = size) (hsz : 0 < size)
    (v : Value) (n : Nat) (xs : List Value) (hs : a.eval s = v) (hown : w.ownsRow base e size v n xs)
    (A : Option Addr) (m c : Nat) (news : List Value) (hx : a.eval x = .slice A m c) (hl : news.length = m * size) (hsrc : ∀ ad, A = some ad → ∀ j u, news[j]? = some u → w.cell? (ad.add j) = some u) (hnil : A = none → m = 0) (h1 : ∀ u ∈ news, u.oneCell' = true)
    (h63 : n + m ≤ maxLen) (hbytes : (n + m) * bytes ≤ 140737488355328) (hbase : base ≤ w.heap.size) (q : Nat) (hq : n + m = q)
    (hK : ∀ A' c' w', w'.ownsRow base e size (.slice A' q c') q (xs ++ news) → w.grownBy w' v.ownBlock → ((Value.slice A' q c').ownBlock = v.ownBlock ∨ (Value.slice A' q c').ownBlock = some w.heap.size) → K (a.put o.dst (.slice A' q c')) w') :
    if Region.wanted o (yielded ops a.tmps) = true then Oper.wp P o a w K Q else EE := by
  subst hq
  have hw : Region.wanted o (yielded ops a.tmps) = true := by simp [Region.wanted, hgd]
  rw [if_pos hw]
  obtain ⟨v', w', hrun, r1, r2, r3⟩ := run_append_src (P := P) w base t o.type e i z size bytes ht hi hz hsize hby hzs hsz v n xs hown A m c news hl hsrc hnil h1 h63 hbytes hbase
  obtain ⟨A', c', rfl⟩ := own_form r1
  unfold Oper.wp
  simp [execOp, hop, resolve, invoke, builtin, hs, hx, hrun, Result.andThen]
  exact hK A' c' w' r1 r2 r3
theorem wpList_append_src {rest : List Oper} {Q : Exit → Act → World → Prop} (hgd : o.guard = none) (s x : Operand) (t : TypeId)
    (hop : o.op = .call { callee := .builtin .append, args := #[s, x], argTypes := #[t, t] })
    (base : Nat) (e : TypeId) (i : TypeInfo) (z : Value) (size bytes : Nat) (ht : P.underlying t = some (.slice e)) (hi : P.info? e = some i) (hz : i.zero = some z)
    (hsize : i.size = size) (hby : i.bytes = bytes) (hzs : z.cells.size = size) (hsz : 0 < size)
    (v : Value) (n : Nat) (xs : List Value) (hs : a.eval s = v) (hown : w.ownsRow base e size v n xs)
    (A : Option Addr) (m c : Nat) (news : List Value) (hx : a.eval x = .slice A m c) (hl : news.length = m * size) (hsrc : ∀ ad, A = some ad → ∀ j u, news[j]? = some u → w.cell? (ad.add j) = some u) (hnil : A = none → m = 0) (h1 : ∀ u ∈ news, u.oneCell' = true)
    (h63 : n + m ≤ maxLen) (hbytes : (n + m) * bytes ≤ 140737488355328) (hbase : base ≤ w.heap.size) (q : Nat) (hq : n + m = q)
    (hK : ∀ A' c' w', w'.ownsRow base e size (.slice A' q c') q (xs ++ news) → w.grownBy w' v.ownBlock → ((Value.slice A' q c').ownBlock = v.ownBlock ∨ (Value.slice A' q c').ownBlock = some w.heap.size) → wpList P ops Q rest (a.put o.dst (.slice A' q c')) w') : wpList P ops Q (o :: rest) a w := by
  subst hq
  refine wpList_plain hgd fun K hK2 => ?_
  obtain ⟨v', w', hrun, r1, r2, r3⟩ := run_append_src (P := P) w base t o.type e i z size bytes ht hi hz hsize hby hzs hsz v n xs hown A m c news hl hsrc hnil h1 h63 hbytes hbase
  obtain ⟨A', c', rfl⟩ := own_form r1
  unfold Oper.wp
  simp [execOp, hop, resolve, invoke, builtin, hs, hx, hrun, Result.andThen]
  exact hK2 _ _ (hK A' c' w' r1 r2 r3)
end
/-- the pieces of an append of one number to a row of one's own -/
theorem ai_row {w6 : World} {B c : Nat} {A : Option Addr} {o : List Int} (v : Int) (h : RowI w6 B A c o) : (w6.alloc (.cells #[.int .i64 v] 3)).ownsRow B 3 1 (.slice A o.length c) o.length (intsV o) := World.ownsRow.alloc h _
theorem ai_src (w6 : World) (v : Int) (ad : Addr) (e : some (⟨w6.heap.size, 0, none⟩ : Addr) = some ad) : ∀ j u, [Value.int .i64 v][j]? = some u → (w6.alloc (.cells #[.int .i64 v] 3)).cell? (ad.add j) = some u := fun j u hu => by
  cases e
  exact World.news_of_block (heap_alloc_new w6 (.cells #[.int .i64 v] 3)) j u hu
theorem ai_new {w w6 w7 : World} {A A7 : Option Addr} {c c7 : Nat} {o : List Int} {v : Int} (h : RowI w6 w.heap.size A c o) (hb : Below w.heap.size w w6) (h7 : w7.ownsRow w.heap.size 3 1 (.slice A7 (o.length + 1) c7) (o.length + 1) (intsV o ++ [.int .i64 v])) (hg : (w6.alloc (.cells #[.int .i64 v] 3)).grownBy w7 (Value.slice A o.length c).ownBlock) :
    RowI w7 w.heap.size A7 c7 (o ++ [v]) ∧ Below w.heap.size w w7 :=
  ⟨by unfold RowI; rw [List.length_append, intsV_append]; exact h7, (hb.alloc hb.size _).grown hg (by simp; have := hb.size; omega) (fun j e => (World.ownsRow.lt h j e).1)⟩
theorem bit_at_i (s n : Nat) (hs : s < 2 ^ 63) : (bits .and .i64 ((s : Int) / 2 ^ n) 1 == 1) = s.testBit n := by
  have e : (s : Int) / 2 ^ n = ((s / 2 ^ n : Nat) : Int) := by
    rw [Int.natCast_ediv]; simp
  have e1 : (1 : Int) = ((1 : Nat) : Int) := rfl
  have hl : s / 2 ^ n < 2 ^ 63 := Nat.lt_of_le_of_lt (Nat.div_le_self _ _) hs
  rw [e, e1, i_and _ _ hl (by decide), Nat.and_one_is_mod, Nat.testBit_eq_decide_div_mod_eq]
  by_cases h : s / 2 ^ n % 2 = 1
  · rw [h]; rfl
  · have : s / 2 ^ n % 2 = 0 := by omega
    rw [this]; rfl
/-- a slice of a set's members came back -/
def GivesM (w : World) (l : List Int) (e : Ending) (w' : World) : Prop := ∃ A c, e = .returned (.slice A l.length c) ∧ RowI w' w.heap.size A c l ∧ Below w.heap.size w w'
set_option maxRecDepth 100000 in
set_option maxHeartbeats 1000000 in
theorem list_any (s : Nat) (w : World) (hs : s < 16384) : Calls Try.prog 32 #[.int .i64 (s : Int)] w (GivesM w (natsI (memb s))) := by
  obtain ⟨i0, hi0, hz0, hz1, hz2⟩ := info_parts info3
  go_enter Try.func32, Try.ntmps32
  go_wp2
  go_loopw [3, 4] (fun o i wr => ∃ (k : Nat) (A' : Option Addr) (c' : Nat), k ≤ 14 ∧ i = .int .i64 k ∧ o = .slice A' (natsI (membTo s k)).length c' ∧ Hid (RowI wr w.heap.size A' c' (natsI (membTo s k))) ∧ Hid (Below w.heap.size w wr)) (fun _ i _ => 14 - (intOf i).toNat)
  case atStart => exact ⟨0, none, 0, Nat.zero_le _, rfl, rfl, World.ownsRow_nil _ _ _ _, Below.refl _ _⟩
  case round =>
    obtain ⟨k, A', c', hk, rfl, rfl, hrow, hB⟩ := hrel
    rename World => wr
    have hk0 : (0 : Int) ≤ (k : Int) := by omega
    have hwz := hB.out.size
    by_cases hlt : k < 14
    · have hki : (k : Int) < 14 := by omega
      have hk6 : (k : Int) < 64 := by omega
      have hl0 := membTo_len s k
      have hl1 := length_natsI (membTo s k)
      have hol : (natsI (membTo s k)).length ≤ 14 := by omega
      have hsc := membTo_succ s k
      have HHk := Lib.hid (bit_at_i s k (by omega))
      clear hl0 hl1
      cases hb : s.testBit k with
      | false =>
        have Hs : Hid (natsI (membTo s (k + 1)) = natsI (membTo s k)) := by unfold Hid; rw [hsc, if_neg (by rw [hb]; simp), List.append_nil]
        rw [hb] at HHk
        clear hb hsc
        generalize natsI (membTo s k) = o at *
        have hHk := HHk.out
        go_wp2_with fail
        go_roundw
        case rel => exact ⟨k + 1, A', c', by omega, by go_num, by rw [Hs.out], by rw [Hs.out]; exact hrow.out, hB.out⟩
        case measure => simp [intOf]; omega
      | true =>
        have Hs : Hid (natsI (membTo s (k + 1)) = natsI (membTo s k) ++ [(k : Int)]) := by unfold Hid; rw [hsc, if_pos hb, natsI_snoc]
        rw [hb] at HHk
        clear hb hsc
        generalize natsI (membTo s k) = o at *
        have hHk := HHk.out
        go_wp2_with (first
          
          | (at_builtin; refine wpList_append_src rfl (.tmp 14) (.tmp 16) 35 rfl w.heap.size 3 i0 (.int .i64 0) 1 8 Try.underlying35 hi0 hz0 hz1 hz2 rfl (by decide) (.slice A' o.length c') o.length (intsV o) rfl (ai_row (k : Int) hrow.out) (some ⟨wr.heap.size, 0, none⟩) 1 1 [.int .i64 (k : Int)] rfl rfl (ai_src wr (k : Int)) (by intro h; cases h) (by intro u hu; simp at hu; subst hu; rfl) (by unfold maxLen; omega) (by omega) (by simp; omega) (o.length + 1) rfl ?_; intro A7 c7 w7 ho7 hg7 hor7; have G1 := Lib.hid (ai_new hrow.out hB.out ho7 hg7).1; have G2 := Lib.hid (ai_new hrow.out hB.out ho7 hg7).2; clear ho7 hg7 hor7))
        go_roundw
        case rel => exact ⟨k + 1, A7, c7, by omega, by go_num, by rw [Hs.out, List.length_append]; rfl, by rw [Hs.out]; exact G1.out, G2.out⟩
        case measure => simp [intOf]; omega
    · obtain rfl : k = 14 := by omega
      go_wp2
      go_ret
      exact ⟨A', c', rfl, hrow.out, hB.out⟩
set_option maxRecDepth 100000 in
set_option maxHeartbeats 1000000 in
theorem members_any (s : Nat) (w : World) (hs : s < 16384) : Calls Try.prog 33 #[.int .u64 (s : Int)] w (GivesM w (natsI (memb s))) := by
  obtain ⟨i0, hi0, hz0, hz1, hz2⟩ := info_parts info3
  go_enter Try.func33, Try.ntmps33
  go_wp2
  go_loopw [3, 5] (fun o i wr => ∃ (k : Nat) (A' : Option Addr) (c' : Nat), k ≤ 14 ∧ i = .int .i64 k ∧ o = .slice A' (natsI (membTo s k)).length c' ∧ Hid (RowI wr w.heap.size A' c' (natsI (membTo s k))) ∧ Hid (Below w.heap.size w wr)) (fun _ i _ => 14 - (intOf i).toNat)
  case atStart => exact ⟨0, none, 0, Nat.zero_le _, rfl, rfl, World.ownsRow_nil _ _ _ _, Below.refl _ _⟩
  case round =>
    obtain ⟨k, A', c', hk, rfl, rfl, hrow, hB⟩ := hrel
    rename World => wr
    have hk0 : (0 : Int) ≤ (k : Int) := by omega
    have hwz := hB.out.size
    by_cases hlt : k < 14
    · have hki : (k : Int) < 14 := by omega
      have hk6 : (k : Int) < 64 := by omega
      have hl0 := membTo_len s k
      have hl1 := length_natsI (membTo s k)
      have hol : (natsI (membTo s k)).length ≤ 14 := by omega
      have hsc := membTo_succ s k
      have HHk := Lib.hid (has_any s k wr hs (by omega))
      clear hl0 hl1
      cases hb : s.testBit k with
      | false =>
        have Hs : Hid (natsI (membTo s (k + 1)) = natsI (membTo s k)) := by unfold Hid; rw [hsc, if_neg (by rw [hb]; simp), List.append_nil]
        rw [hb] at HHk
        clear hb hsc
        generalize natsI (membTo s k) = o at *
        skip
        go_wp2_with (go_at_call 26; (with_reducible refine HHk.out.mono ?_); rintro e w4 ⟨rfl, rfl⟩)
        go_roundw
        case rel => exact ⟨k + 1, A', c', by omega, by go_num, by rw [Hs.out], by rw [Hs.out]; exact hrow.out, hB.out⟩
        case measure => simp [intOf]; omega
      | true =>
        have Hs : Hid (natsI (membTo s (k + 1)) = natsI (membTo s k) ++ [(k : Int)]) := by unfold Hid; rw [hsc, if_pos hb, natsI_snoc]
        rw [hb] at HHk
        clear hb hsc
        generalize natsI (membTo s k) = o at *
        skip
        go_wp2_with (first
          | (go_at_call 26; (with_reducible refine HHk.out.mono ?_); rintro e w4 ⟨rfl, rfl⟩)
          | (at_builtin; refine wpList_append_src rfl (.tmp 11) (.tmp 13) 35 rfl w.heap.size 3 i0 (.int .i64 0) 1 8 Try.underlying35 hi0 hz0 hz1 hz2 rfl (by decide) (.slice A' o.length c') o.length (intsV o) rfl (ai_row (k : Int) hrow.out) (some ⟨wr.heap.size, 0, none⟩) 1 1 [.int .i64 (k : Int)] rfl rfl (ai_src wr (k : Int)) (by intro h; cases h) (by intro u hu; simp at hu; subst hu; rfl) (by unfold maxLen; omega) (by omega) (by simp; omega) (o.length + 1) rfl ?_; intro A7 c7 w7 ho7 hg7 hor7; have G1 := Lib.hid (ai_new hrow.out hB.out ho7 hg7).1; have G2 := Lib.hid (ai_new hrow.out hB.out ho7 hg7).2; clear ho7 hg7 hor7))
        go_roundw
        case rel => exact ⟨k + 1, A7, c7, by omega, by go_num, by rw [Hs.out, List.length_append]; rfl, by rw [Hs.out]; exact G1.out, G2.out⟩
        case measure => simp [intOf]; omega
    · obtain rfl : k = 14 := by omega
      go_wp2
      go_ret
      exact ⟨A', c', rfl, hrow.out, hB.out⟩
end Go.Proofs.Ythffdkoncagimaa
