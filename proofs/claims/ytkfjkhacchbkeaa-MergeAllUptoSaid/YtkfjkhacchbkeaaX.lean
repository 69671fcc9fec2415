/- Items that came in; few and some. -/
import Derived.Test.YtkfjkhacchbkeaaV
import Derived.ChangeSame
namespace Go.Proofs.Ytkfjkhacchbkeaa
set_option linter.unusedVariables false
set_option linter.unusedSimpArgs false
open Go.RowKit Go.ChangeShapes Go.WideShapes Go.Deep

/-- items that came in -/
structure IsItems (w : World) (a : Option Addr) (len cap : Nat) (l : List It) : Prop where
  hlen : l.length = len
  hcap : len ≤ cap
  hmax : cap ≤ maxLen
  ok : ∀ k, k < len → (itN l k).p.ok
  at_ : 0 < len → ∃ (b off : Nat) (Af : Nat → Option Addr) (Cf : Nat → Nat), a = some ⟨b, off, none⟩ ∧ b < w.heap.size ∧ ∀ j, j < len → ItAt w w.heap.size b (off + j * 4) (itN l j) (Af j) (Cf j) ∧ (itN l j).d.length ≤ Cf j ∧ Cf j ≤ maxLen
def fewL (l : List It) : List It := (l.take 24).map fun x => ⟨x.p, x.d.take 24⟩
theorem length_fewL (l : List It) : (fewL l).length = min 24 l.length := by simp [fewL]
theorem itN_fewL {l : List It} {k : Nat} (h : k < (fewL l).length) : itN (fewL l) k = ⟨(itN l k).p, (itN l k).d.take 24⟩ := by
  rw [length_fewL] at h
  rw [itN_lt (by rw [length_fewL]; exact h), itN_lt (by omega)]
  simp [fewL]
theorem small_fewL {w : World} {a : Option Addr} {len cap : Nat} {l : List It} (h : IsItems w a len cap l) : Small (fewL l) := fun k hk => by
  rw [itN_fewL hk]
  rw [length_fewL, h.hlen] at hk
  exact ⟨h.ok k (by omega), by simp only [List.length_take]; omega⟩
def stOf (l : List It) (Af : Nat → Option Addr) (Cf : Nat → Nat) (j : Nat) : Pat.Pt × Value := ((itN l j).p, .slice (Af j) (min 24 (itN l j).d.length) (Cf j))
theorem itV_succ (k : Nat) (st : Nat → Pat.Pt × Value) : itV (k + 1) st = itV k st ++ [.int .i64 (st k).1.b, .int .i64 (st k).1.o, .string (st k).1.s, (st k).2] := by
  have e : (k + 1) * 4 = k * 4 + 4 := by omega
  unfold itV
  rw [e, List.range_add, List.map_append]
  congr 1
  simp only [List.range_succ, List.range_zero, List.nil_append, List.cons_append, List.map_cons, List.map_nil, Nat.add_zero, itC0, itC1, itC2, itC3]
theorem cells_new (W : World) (cs : Array Value) (t : TypeId) (j : Nat) (u : Value) (h : cs.toList[j]? = some u) : (W.alloc (.cells cs t)).cell? ((⟨W.heap.size, 0, none⟩ : Addr).add j) = some u := by
  rw [add_plain, Nat.zero_add, (BlkIs.new W t cs).cell]; exact h
def FewSays (w : World) (l : List It) (e : Ending) (w' : World) : Prop := ∃ A' c', e = .returned (.slice A' (fewL l).length c') ∧ Items w' w'.heap.size A' (fewL l) ∧ Below w.heap.size w w'
theorem own_items {w W : World} {v : Value} {n : Nat} {l : List It} {Af : Nat → Option Addr} {Cf : Nat → Nat} (hn : n = (fewL l).length) (h : W.ownsRow w.heap.size 46 4 v n (itV n (stOf l Af Cf))) (hr : ∀ j, j < n → Ints W W.heap.size (Af j) (itN l j).d) : ∃ A c, v = .slice A n c ∧ Items W W.heap.size A (fewL l) := by
  rcases h.2 with ⟨rfl, e⟩ | ⟨g, cap, cur, rfl, hbg, hg, hnc, hcm, _⟩
  · refine ⟨none, 0, by rw [e], fun h0 => by omega⟩
  · refine ⟨_, cap, rfl, fun h0 => ⟨g, 0, Af, Cf, rfl, (h.lt g rfl).2, fun j hj => ?_⟩⟩
    rw [← hn] at hj
    rw [itN_fewL (by rw [← hn]; exact hj)]
    have hc : ∀ i, i < 4 → W.cell? ⟨g, j * 4 + i, none⟩ = some (itC (stOf l Af Cf) (j * 4 + i)) := fun i hi => by
      rw [h.cellAt _ (by omega), itV_at _ (by omega)]
    refine ⟨?_, ?_, ?_, ?_, (hr j hj).take 24⟩
    · have := hc 0 (by omega); rw [Nat.add_zero, itC0] at this; rw [Nat.zero_add]; exact this
    · have := hc 1 (by omega); rw [itC1] at this; rw [Nat.zero_add]; exact this
    · have := hc 2 (by omega); rw [itC2] at this; rw [Nat.zero_add]; exact this
    · have := hc 3 (by omega); rw [itC3] at this; rw [Nat.zero_add, List.length_take]; exact this

set_option maxRecDepth 100000 in
set_option maxHeartbeats 4000000 in
theorem few_any (a : Option Addr) (len cap : Nat) (l : List It) (w : World) (h : IsItems w a len cap l) :
    Calls Try.prog 13 #[.slice a len cap] w (FewSays w l) := by
  obtain ⟨hlen, hcap, hmax, hok, hat⟩ := h
  obtain ⟨Af, Cf, hAt⟩ : ∃ (Af : Nat → Option Addr) (Cf : Nat → Nat), 0 < len → ∃ b off, a = some ⟨b, off, none⟩ ∧ b < w.heap.size ∧ ∀ j, j < len → ItAt w w.heap.size b (off + j * 4) (itN l j) (Af j) (Cf j) ∧ (itN l j).d.length ≤ Cf j ∧ Cf j ≤ maxLen := by
    by_cases h0 : 0 < len
    · obtain ⟨b, off, Af, Cf, h⟩ := hat h0
      exact ⟨Af, Cf, fun _ => ⟨b, off, h⟩⟩
    · exact ⟨fun _ => none, fun _ => 0, fun h => by omega⟩
  have HAt := Lib.hid hAt
  have hn0 : (fewL l).length = min 24 len := by rw [length_fewL, hlen]
  obtain ⟨n, hn⟩ : ∃ n, n = (fewL l).length := ⟨_, rfl⟩
  rw [← hn] at hn0
  have Hn := Lib.hid hn
  obtain ⟨i0, hi, hz0, hz1, hz2⟩ := info_parts info46
  unfold maxLen at hmax
  clear hat hAt hok hlen hn
  by_cases h24 : 24 < len
  · obtain rfl : n = 24 := by omega
    have h24i : (24 : Int) < (len : Int) := by omega
    clear hn0
    go_enter Try.func13, Try.ntmps13
    go_wp2_with fail
    go_loopw [3, 4] (fun v i wr => ∃ k : Nat, k ≤ 24 ∧ i = .int .i64 k ∧ wr.ownsRow w.heap.size 46 4 v k (itV k (stOf l Af Cf)) ∧ Below w.heap.size w wr) (fun _ i _ => 24 - (intOf i).toNat)
    case atStart => exact ⟨0, Nat.zero_le _, rfl, World.ownsRow_nil _ _ _ _, Below.refl _ _⟩
    case round =>
      obtain ⟨k, hk, rfl, hown, hB⟩ := hrel
      rename World => wr
      have hsz := hB.size
      by_cases hlt : k < 24
      · have hlti : (k : Int) < ((24 : Nat) : Int) := by omega
        have hk0 : (0 : Int) ≤ (k : Int) := by omega
        obtain ⟨b, off, rfl, hb, hj⟩ := HAt.out (by omega)
        obtain ⟨hx, hrc, hrm⟩ := hj k (by omega)
        have hx' := hx.keep (w' := wr) hb (fun p hp => hB.cell hp)
        obtain ⟨c0, c1, c2, c3, _⟩ := hx'
        have Hsu : Hid (itV (k + 1) (stOf l Af Cf) = itV k (stOf l Af Cf) ++ [.int .i64 (itN l k).p.b, .int .i64 (itN l k).p.o, .string (itN l k).p.s, .slice (Af k) (min 24 (itN l k).d.length) (Cf k)]) := itV_succ k _
        obtain ⟨x, hxe⟩ : ∃ x, x = itN l k := ⟨_, rfl⟩
        rw [← hxe] at c0 c1 c2 c3 Hsu hrc
        unfold maxLen at hrm
        clear hxe hx hj
        obtain ⟨⟨pb, po, ps⟩, d⟩ := x
        simp only at c0 c1 c2 c3 Hsu hrc
        obtain ⟨m, hm⟩ : ∃ m, m = d.length := ⟨_, rfl⟩
        rw [← hm] at c3 Hsu hrc
        clear hm
        by_cases h24 : 24 < m
        · have h24i : (24 : Int) < (m : Int) := by omega
          have e : min 24 m = 24 := by omega
          rw [e] at Hsu
          clear e
          go_wp2_with (at_builtin; refine wpList_append_own _ rfl _ _ 22 rfl w.heap.size 46 i0 (.agg #[.int .i64 0, .int .i64 0, .string ByteArray.empty, .slice none 0 0]) 4 56 Try.underlying22 hi hz0 hz1 hz2 rfl (by decide) _ _ _ rfl ((hown.alloc _).alloc _) ⟨wr.heap.size + 1, 0, none⟩ 1 1 [.int .i64 pb, .int .i64 po, .string ps, .slice (Af k) 24 (Cf k)] rfl rfl (by have := cells_new (wr.alloc (.cells #[.int .i64 pb, .int .i64 po, .string ps, .slice (Af k) 24 (Cf k)] 46)) #[.int .i64 pb, .int .i64 po, .string ps, .slice (Af k) 24 (Cf k)] 46; simpa using this) (by simp [Value.oneCell']) (by unfold maxLen; omega) (by omega) (by simp; omega) ?_; intro v' w5 hown' hgrow _; have hB5 : Below w.heap.size w w5 := hB.trans ((((Below.refl _ wr).alloc hsz _).alloc (by simp; omega) _).grown hgrow (by simp; omega) (fun j e => (hown.lt j e).1)); have Hown := Lib.hid hown'; have HB5 := Lib.hid hB5; clear hown' hB5 hgrow)
          go_roundw
          case rel => exact ⟨k + 1, by omega, by go_num, by rw [Hsu.out]; exact Hown.out, HB5.out⟩
          case measure => simp [intOf]; omega
        · have h24i : ¬ (24 : Int) < (m : Int) := by omega
          have e : min 24 m = m := by omega
          rw [e] at Hsu
          clear e
          go_wp2_with (at_builtin; refine wpList_append_own _ rfl _ _ 22 rfl w.heap.size 46 i0 (.agg #[.int .i64 0, .int .i64 0, .string ByteArray.empty, .slice none 0 0]) 4 56 Try.underlying22 hi hz0 hz1 hz2 rfl (by decide) _ _ _ rfl ((hown.alloc _).alloc _) ⟨wr.heap.size + 1, 0, none⟩ 1 1 [.int .i64 pb, .int .i64 po, .string ps, .slice (Af k) m (Cf k)] rfl rfl (by have := cells_new (wr.alloc (.cells #[.int .i64 pb, .int .i64 po, .string ps, .slice (Af k) m (Cf k)] 46)) #[.int .i64 pb, .int .i64 po, .string ps, .slice (Af k) m (Cf k)] 46; simpa using this) (by simp [Value.oneCell']) (by unfold maxLen; omega) (by omega) (by simp; omega) ?_; intro v' w5 hown' hgrow _; have hB5 : Below w.heap.size w w5 := hB.trans ((((Below.refl _ wr).alloc hsz _).alloc (by simp; omega) _).grown hgrow (by simp; omega) (fun j e => (hown.lt j e).1)); have Hown := Lib.hid hown'; have HB5 := Lib.hid hB5; clear hown' hB5 hgrow)
          go_roundw
          case rel => exact ⟨k + 1, by omega, by go_num, by rw [Hsu.out]; exact Hown.out, HB5.out⟩
          case measure => simp [intOf]; omega
      · have hlti : ¬ (k : Int) < ((24 : Nat) : Int) := by omega
        obtain rfl : k = 24 := by omega
        obtain ⟨A', c', rfl, hI⟩ := own_items Hn.out hown (fun j hj => by
          obtain ⟨b, off, _, hb, h⟩ := HAt.out (by omega)
          exact (((h j (by omega)).1.row).below hB).more hB.size)
        have HI := Lib.hid hI
        have HB := Lib.hid hB
        clear hown hI hB
        go_wp2_with fail
        go_ret
        exact ⟨A', c', by rw [← Hn.out]; rfl, HI.out, HB.out⟩
  · obtain rfl : n = len := by omega
    have h24i : ¬ (24 : Int) < (n : Int) := by omega
    clear hn0
    go_enter Try.func13, Try.ntmps13
    go_wp2_with fail
    go_loopw [3, 4] (fun v i wr => ∃ k : Nat, k ≤ n ∧ i = .int .i64 k ∧ wr.ownsRow w.heap.size 46 4 v k (itV k (stOf l Af Cf)) ∧ Below w.heap.size w wr) (fun _ i _ => n - (intOf i).toNat)
    case atStart => exact ⟨0, Nat.zero_le _, rfl, World.ownsRow_nil _ _ _ _, Below.refl _ _⟩
    case round =>
      obtain ⟨k, hk, rfl, hown, hB⟩ := hrel
      rename World => wr
      have hsz := hB.size
      by_cases hlt : k < n
      · have hlti : (k : Int) < (n : Int) := by omega
        have hk0 : (0 : Int) ≤ (k : Int) := by omega
        obtain ⟨b, off, rfl, hb, hj⟩ := HAt.out (by omega)
        obtain ⟨hx, hrc, hrm⟩ := hj k (by omega)
        have hx' := hx.keep (w' := wr) hb (fun p hp => hB.cell hp)
        obtain ⟨c0, c1, c2, c3, _⟩ := hx'
        have Hsu : Hid (itV (k + 1) (stOf l Af Cf) = itV k (stOf l Af Cf) ++ [.int .i64 (itN l k).p.b, .int .i64 (itN l k).p.o, .string (itN l k).p.s, .slice (Af k) (min 24 (itN l k).d.length) (Cf k)]) := itV_succ k _
        obtain ⟨x, hxe⟩ : ∃ x, x = itN l k := ⟨_, rfl⟩
        rw [← hxe] at c0 c1 c2 c3 Hsu hrc
        unfold maxLen at hrm
        clear hxe hx hj
        obtain ⟨⟨pb, po, ps⟩, d⟩ := x
        simp only at c0 c1 c2 c3 Hsu hrc
        obtain ⟨m, hm⟩ : ∃ m, m = d.length := ⟨_, rfl⟩
        rw [← hm] at c3 Hsu hrc
        clear hm
        by_cases h24 : 24 < m
        · have h24i : (24 : Int) < (m : Int) := by omega
          have e : min 24 m = 24 := by omega
          rw [e] at Hsu
          clear e
          go_wp2_with (at_builtin; refine wpList_append_own _ rfl _ _ 22 rfl w.heap.size 46 i0 (.agg #[.int .i64 0, .int .i64 0, .string ByteArray.empty, .slice none 0 0]) 4 56 Try.underlying22 hi hz0 hz1 hz2 rfl (by decide) _ _ _ rfl ((hown.alloc _).alloc _) ⟨wr.heap.size + 1, 0, none⟩ 1 1 [.int .i64 pb, .int .i64 po, .string ps, .slice (Af k) 24 (Cf k)] rfl rfl (by have := cells_new (wr.alloc (.cells #[.int .i64 pb, .int .i64 po, .string ps, .slice (Af k) 24 (Cf k)] 46)) #[.int .i64 pb, .int .i64 po, .string ps, .slice (Af k) 24 (Cf k)] 46; simpa using this) (by simp [Value.oneCell']) (by unfold maxLen; omega) (by omega) (by simp; omega) ?_; intro v' w5 hown' hgrow _; have hB5 : Below w.heap.size w w5 := hB.trans ((((Below.refl _ wr).alloc hsz _).alloc (by simp; omega) _).grown hgrow (by simp; omega) (fun j e => (hown.lt j e).1)); have Hown := Lib.hid hown'; have HB5 := Lib.hid hB5; clear hown' hB5 hgrow)
          go_roundw
          case rel => exact ⟨k + 1, by omega, by go_num, by rw [Hsu.out]; exact Hown.out, HB5.out⟩
          case measure => simp [intOf]; omega
        · have h24i : ¬ (24 : Int) < (m : Int) := by omega
          have e : min 24 m = m := by omega
          rw [e] at Hsu
          clear e
          go_wp2_with (at_builtin; refine wpList_append_own _ rfl _ _ 22 rfl w.heap.size 46 i0 (.agg #[.int .i64 0, .int .i64 0, .string ByteArray.empty, .slice none 0 0]) 4 56 Try.underlying22 hi hz0 hz1 hz2 rfl (by decide) _ _ _ rfl ((hown.alloc _).alloc _) ⟨wr.heap.size + 1, 0, none⟩ 1 1 [.int .i64 pb, .int .i64 po, .string ps, .slice (Af k) m (Cf k)] rfl rfl (by have := cells_new (wr.alloc (.cells #[.int .i64 pb, .int .i64 po, .string ps, .slice (Af k) m (Cf k)] 46)) #[.int .i64 pb, .int .i64 po, .string ps, .slice (Af k) m (Cf k)] 46; simpa using this) (by simp [Value.oneCell']) (by unfold maxLen; omega) (by omega) (by simp; omega) ?_; intro v' w5 hown' hgrow _; have hB5 : Below w.heap.size w w5 := hB.trans ((((Below.refl _ wr).alloc hsz _).alloc (by simp; omega) _).grown hgrow (by simp; omega) (fun j e => (hown.lt j e).1)); have Hown := Lib.hid hown'; have HB5 := Lib.hid hB5; clear hown' hB5 hgrow)
          go_roundw
          case rel => exact ⟨k + 1, by omega, by go_num, by rw [Hsu.out]; exact Hown.out, HB5.out⟩
          case measure => simp [intOf]; omega
      · have hlti : ¬ (k : Int) < (n : Int) := by omega
        obtain rfl : k = n := by omega
        obtain ⟨A', c', rfl, hI⟩ := own_items Hn.out hown (fun j hj => by
          obtain ⟨b, off, _, hb, h⟩ := HAt.out (by omega)
          exact (((h j (by omega)).1.row).below hB).more hB.size)
        have HI := Lib.hid hI
        have HB := Lib.hid hB
        clear hown hI hB
        go_wp2_with fail
        go_ret
        exact ⟨A', c', by rw [← Hn.out]; rfl, HI.out, HB.out⟩

theorem some_any (A : Option Addr) (n c : Nat) (w : World) (hn : n ≤ c) (hc : c ≤ maxLen) :
    Calls Try.prog 24 #[.slice A n c] w fun e w' => e = .returned (.slice A (min n 40) c) ∧ w = w' := by
  unfold maxLen at hc
  by_cases h : 40 < n
  · have e : min n 40 = 40 := by omega
    rw [e]
    have h1 : (40 : Int) < (n : Int) := by omega
    have h2 : 40 ≤ c := by omega
    clear e
    go_enter Try.func24, Try.ntmps24
    go_wp2
    go_ret
    exact ⟨rfl, rfl⟩
  · have e : min n 40 = n := by omega
    rw [e]
    have h1 : ¬ (40 : Int) < (n : Int) := by omega
    clear e
    go_enter Try.func24, Try.ntmps24
    go_wp2
    go_ret
    exact ⟨rfl, rfl⟩
theorem some_row {w : World} {a : Option Addr} {len cap : Nat} {zs : List Int} (h : IsRow .i64 w a len cap zs) :
    ∃ s, s.length = min len 40 ∧ Ints w w.heap.size a s ∧ ∀ W, Calls Try.prog 24 #[.slice a len cap] W fun e w' => e = .returned (.slice a s.length cap) ∧ W = w' := by
  obtain ⟨h1, h2, h3, h4⟩ := h.ints
  have hl : ((zs.take len).take 40).length = min len 40 := by rw [List.length_take, h4, Nat.min_comm]
  refine ⟨(zs.take len).take 40, hl, h3.take 40, fun W => ?_⟩
  rw [hl]
  exact some_any a len cap W h1 h2

theorem cells46 : Try.prog.cellsOf 46 = 4 := by kernel_rfl
theorem cells44 : Try.prog.cellsOf 44 = 3 := by kernel_rfl
theorem cells29 : Try.prog.cellsOf 29 = 1 := by kernel_rfl
section
variable {H : Type} {enc : TypeId × Value → H} {w : World} {base : Nat} {k : Bool}
theorem open_row_cell {fuel : Nat} {c : Value} {x : DataW H × List MemPlace} (hf : DataW.trod enc Try.prog w base (fun _ => true) k fuel 29 [c] = some x) :
    ∃ a len cap zs, c = .slice a len cap ∧ IsRow .i64 w a len cap zs := by
  rcases open_ints Try.underlying29 Try.underlying3 (by kernel_rfl) hf with ⟨hcs, _⟩ | ⟨y, l, c', zs, hcs, _, hl, hm, hz, _, hcell, hwz⟩
  · simp at hcs
    subst hcs
    exact ⟨none, 0, 0, [], rfl, .inl ⟨rfl, rfl, rfl, rfl⟩⟩
  · simp at hcs
    subst hcs
    exact ⟨_, _, _, zs, rfl, .inr ⟨_, rfl, hl, hm, by simpa using hz, hcell, hwz⟩⟩
theorem cells_item {fuel : Nat} {cs : List Value} {x : DataW H × List MemPlace} (h : DataW.trod enc Try.prog w base (fun _ => true) k fuel 46 cs = some x) :
    ∃ (p : Pat.Pt) (a : Option Addr) (len cap : Nat) (zs : List Int), cs = p.cs ++ [.slice a len cap] ∧ p.ok ∧ IsRow .i64 w a len cap zs := by
  obtain ⟨y0, y1, n, _, hl, h0, h1⟩ := trod_struct2 Try.underlying46 h
  rw [cells46] at hl
  obtain ⟨c0, c1, c2, c3, rfl⟩ : ∃ a b c d, cs = [a, b, c, d] := by
    match cs, hl with
    | [a, b, c, d], _ => exact ⟨a, b, c, d, rfl⟩
  simp only [cells44, cells29] at h0 h1
  obtain ⟨p, e, hp⟩ := Pat.cells_patch h0
  obtain ⟨a, len, cap, zs, e1, hr⟩ := open_row_cell (c := c3) h1
  simp [Pat.Pt.cs] at e
  obtain ⟨rfl, rfl, rfl⟩ := e
  subst e1
  exact ⟨p, a, len, cap, zs, rfl, hp, hr⟩
theorem open_items {a : Option Addr} {len cap : Nat} {d : DataW H} {pl : List MemPlace} (h : DataW.Trod enc Try.prog w base (fun _ => true) k 22 (.slice a len cap) d pl) : ∃ l, IsItems w a len cap l := by
  obtain ⟨fuel, hf⟩ := h
  rcases Deep.open_slice Try.underlying22 hf with ⟨e, _⟩ | ⟨x, l, c, m, n, D, Pl, e, _, hl, hm, hmm, _, hx⟩
  · simp [Value.cells] at e
    obtain ⟨rfl, rfl, rfl⟩ := e
    exact ⟨[], rfl, Nat.le_refl _, Nat.zero_le _, fun k hk => by omega, fun h => by omega⟩
  · simp [Value.cells] at e
    obtain ⟨rfl, rfl, rfl⟩ := e
    rw [cells46] at hx
    have hlm : len ≤ m := by rw [hmm]; split <;> omega
    have hg : ∀ i, i < len → ∃ (p : Pat.Pt) (ai : Option Addr) (li ci : Nat) (zs : List Int), p.ok ∧ IsRow .i64 w ai li ci zs ∧ ∀ j, j < 4 → w.cell? ((x.add (i * 4)).add j) = (p.cs ++ [.slice ai li ci])[j]? := fun i hi => by
      obtain ⟨cs, h1, h2⟩ := hx i (by omega)
      obtain ⟨p, ai, li, ci, zs, rfl, hp, hr⟩ := cells_item h2
      exact ⟨p, ai, li, ci, zs, hp, hr, (World.cells?_some h1).2.2⟩
    obtain ⟨f, hf⟩ : ∃ f : Nat → (Pat.Pt × Option Addr × Nat × Nat × List Int), ∀ i, i < len → (f i).1.ok ∧ IsRow .i64 w (f i).2.1 (f i).2.2.1 (f i).2.2.2.1 (f i).2.2.2.2 ∧ ∀ j, j < 4 → w.cell? ((x.add (i * 4)).add j) = ((f i).1.cs ++ [.slice (f i).2.1 (f i).2.2.1 (f i).2.2.2.1])[j]? := by
      classical
      refine ⟨fun i => if h : i < len then ((hg i h).choose, (hg i h).choose_spec.choose, (hg i h).choose_spec.choose_spec.choose, (hg i h).choose_spec.choose_spec.choose_spec.choose, (hg i h).choose_spec.choose_spec.choose_spec.choose_spec.choose) else (⟨0, 0, ByteArray.empty⟩, none, 0, 0, []), fun i hi => ?_⟩
      simp only [dif_pos hi]
      exact (hg i hi).choose_spec.choose_spec.choose_spec.choose_spec.choose_spec
    have hit : ∀ i, i < len → itN ((List.range len).map fun i => (⟨(f i).1, (f i).2.2.2.2.take (f i).2.2.1⟩ : It)) i = ⟨(f i).1, (f i).2.2.2.2.take (f i).2.2.1⟩ := fun i hi => by
      rw [itN_lt (by simpa using hi)]; simp
    refine ⟨(List.range len).map fun i => (⟨(f i).1, (f i).2.2.2.2.take (f i).2.2.1⟩ : It), by simp, hl, hm, fun i hi => by rw [hit i hi]; exact (hf i hi).1, fun hn => ?_⟩
    obtain ⟨b, off, spot⟩ := x
    have h0 := (hf 0 hn).2.2 0 (by omega)
    have hspot : spot = none := by
      have : w.cell? ⟨b, off, spot⟩ = some (.int .i64 (f 0).1.b) := by simpa [Addr.add, Pat.Pt.cs] using h0
      exact World.cell?_spot this
    subst hspot
    refine ⟨b, off, fun i => (f i).2.1, fun i => (f i).2.2.2.1, rfl, lt_cell (v := .int .i64 (f 0).1.b) (by simpa [Addr.add, Pat.Pt.cs] using h0), fun i hi => ?_⟩
    obtain ⟨_, hr, hc⟩ := hf i hi
    obtain ⟨r1, r2, r3, r4⟩ := hr.ints
    rw [hit i hi]
    have hcj : ∀ j, j < 4 → w.cell? ⟨b, off + i * 4 + j, none⟩ = ((f i).1.cs ++ [.slice (f i).2.1 (f i).2.2.1 (f i).2.2.2.1])[j]? := fun j hj => by
      have := hc j hj
      rwa [add_plain, add_plain] at this
    refine ⟨⟨?_, ?_, ?_, ?_, r3⟩, by rw [r4]; exact r1, r2⟩
    · have := hcj 0 (by omega); simpa [Pat.Pt.cs] using this
    · have := hcj 1 (by omega); simpa [Pat.Pt.cs] using this
    · have := hcj 2 (by omega); simpa [Pat.Pt.cs] using this
    · have := hcj 3 (by omega); simpa [Pat.Pt.cs, r4] using this
end
end Go.Proofs.Ytkfjkhacchbkeaa
