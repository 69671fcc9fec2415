/- The program's groups: Fork. -/
import Derived.Test.YtdndchoghhllmaaZB
import Derived.Deep.RegionHeld
set_option linter.unusedVariables false
set_option linter.unusedSimpArgs false
namespace Go.Proofs.Ytdndchoghhllmaa
open Go.RowKit Go.Maps Go.Sort Go.Shelf
section
variable {P : Program} {ops : Array Oper} {Q : Exit → Act → World → Prop} {md : Region.Mode} {S : World → Prop}
/-- take one operation of a drawn region, the slot that it fills written out -/
theorem takeH {i : Nat} {oi : Oper} (d : Option Tmp) {v : Value} {fuel : Nat} {listed : Array Bool} {a : Act} {w : World} (hi : ops[i]? = some oi) (hd : oi.dst = d)
    (hs : Region.noSelect ops = true) (hf : Region.free md ops listed i = true) (hr : (Region.ready md ops listed).contains i = true)
    (hQ : ∀ c a w, Q (.panic c) (a.put d v) w → Q (.panic c) a w) (hw : Region.wanted oi (yielded ops a.tmps) = true) (hy : ∀ w, S w → (execOp a.eval oi).run P w = .ok (.value v) w) (hS : S w)
    (h : wpAnyH P md ops Q S fuel (listed.setIfInBounds i true) (a.put d v) w) : wpAnyH P md ops Q S (fuel + 1) listed a w := by
  subst hd
  exact wpAnyH_take hi hs hf hr hQ (Or.inl ⟨hw, hy⟩) hS h
end
section
variable {P : Program} {ops : Array Oper} {o : Oper} {a : Act} {w : World} {K : Act → World → Prop} {Q : Exit → Act → World → Prop} {E : Prop}
theorem step_of (hg : o.guard = none) (h : Oper.wp P o a w K Q) : if Region.wanted o (yielded ops a.tmps) = true then Oper.wp P o a w K Q else E := by
  rw [if_pos (by simp [Region.wanted, hg])]
  exact h
theorem wp_update_held (m x v : Operand) (t : TypeId) (hop : o.op = Op.mapUpdate t m x v)
    (k e : TypeId) (KK : Go.Maps.Keyed P k) (ht : P.underlying t = some (.map k e)) (b n : Nat) (D : DataW Value)
    (hm : a.eval m = .map (some b)) (hown : w.ownsMap P k RV b n D) (hn : n < maxLen) (key val : Value) (kl : Lit) (hx : a.eval x = key) (hv : a.eval v = val) (hkey : keyOf P k key = some kl)
    (h : ∀ w', w'.ownsMap P k RV b (n + 1) (D.put kl (.held val)) → w.grownBy w' (some b) → K (a.put o.dst undef) w') : o.wp P a w K Q := by
  obtain ⟨w', hrun, r1, r2⟩ := hown.update KK ht hn hkey (show RV val = some (.held val, []) from rfl)
  unfold Oper.wp
  simp [execOp, hop, hm, hx, hv, hrun, Result.andThen]
  exact h w' r1 r2
end
/-- the same groups in another order -/
theorem PrgAt.order {B c : Nat} {w : World} {g mb : Nat} {L L2 : List Pr} {k : Int} (h : PrgAt B c w g mb L k) (hm : ∀ p, p ∈ L2 ↔ p ∈ L) (hnd : (nos (gp L2)).Nodup) : PrgAt B c w g mb L2 k := by
  obtain ⟨D, m1, m2, m3⟩ := h.map
  have hno : ∀ x, x ∈ nos (gp L) ↔ x ∈ nos (gp L2) := fun x => by
    constructor
    · intro z
      obtain ⟨y, hy, e⟩ := List.mem_map.1 z
      obtain ⟨q, hq, rfl⟩ := List.mem_map.1 hy
      rw [← e]; exact in_nos (List.mem_map.2 ⟨q, (hm q).2 hq, rfl⟩)
    · intro z
      obtain ⟨y, hy, e⟩ := List.mem_map.1 z
      obtain ⟨q, hq, rfl⟩ := List.mem_map.1 hy
      rw [← e]; exact in_nos (List.mem_map.2 ⟨q, (hm q).1 hq, rfl⟩)
  exact ⟨h.head, ⟨D, m1, fun x => (m2 x).trans (hno x), fun q hq => m3 q ((hm q).1 hq)⟩, hnd, fun q hq => h.ones q ((hm q).1 hq), fun q hq => h.pats q ((hm q).1 hq), fun q hq => h.ahs q ((hm q).1 hq), ⟨h.ap.gm, fun q hq => h.ap.one q ((hm q).1 hq), fun q hq q' hq' => h.ap.two q ((hm q).1 hq) q' ((hm q').1 hq')⟩, h.lo.1, h.lo.2.1, fun q hq => h.lo.2.2 q ((hm q).1 hq)⟩
/-- a fork under way -/
def FkS (w wr : World) (g mb hd mh r c : Nat) (L : List Pr) (k : Int) (D : DataW Value) (j : Nat) (L' : List Pr) (left : Lit → Bool) (cnt : Nat) : Prop :=
  wr.ranges Try.prog 3 RV mb r c D left cnt ∧ (∀ x : Int, left (.int .i64 x) = true → ∃ q ∈ L, q.g.n = x) ∧ Below w.heap.size w wr ∧ PrgAt w.heap.size (c + j) wr hd mh L' k ∧ j + cnt ≤ Maps.size D ∧
    (∀ p ∈ L', ∃ q ∈ L, p.g = q.g ∧ left (.int .i64 q.g.n) = false) ∧ ∀ q ∈ L, left (.int .i64 q.g.n) = false → ∃ p ∈ L', p.g = q.g
theorem FkS.done {w wr : World} {B g mb hd mh r c : Nat} {L : List Pr} {k : Int} {D : DataW Value} {j : Nat} {L' : List Pr} {left : Lit → Bool} {cnt : Nat} (h : FkS w wr g mb hd mh r c L k D j L' left cnt) (hl : ∀ kl, left kl = false) (hC : PrgAt B c w g mb L k) : ∃ L2, PrgAt w.heap.size (c + j) wr hd mh L2 k ∧ gp L2 = gp L := by
  obtain ⟨_, _, _, hP, _, h1, h2⟩ := h
  have hex : ∀ q ∈ L, ∃ p ∈ L', p.g = q.g := fun q hq => h2 q hq (hl _)
  let f : Pr → Pr := fun q => (L'.find? fun p => p.g.n == q.g.n).getD q
  have hf : ∀ q ∈ L, f q ∈ L' ∧ (f q).g = q.g := fun q hq => by
    obtain ⟨p, hp, e⟩ := hex q hq
    cases hfi : L'.find? (fun p => p.g.n == q.g.n) with
    | none =>
      have := List.find?_eq_none.1 hfi p hp
      simp [e] at this
    | some p2 =>
      have hm2 := List.mem_of_find?_eq_some hfi
      have hn2 := List.find?_some hfi
      have e2 : p2.g.n = q.g.n := by simpa using hn2
      have hfe : f q = p2 := by show (L'.find? _).getD q = p2; rw [hfi]; rfl
      obtain ⟨q3, hq3, e3, _⟩ := h1 p2 hm2
      have : q3 = q := hC.uniq hq3 hq (by rw [← e3, e2])
      rw [hfe]
      exact ⟨hm2, by rw [e3, this]⟩
  have hg : gp (L.map f) = gp L := by
    unfold gp
    rw [List.map_map]
    exact List.map_congr_left fun q hq => (hf q hq).2
  refine ⟨L.map f, hP.order (fun p => ?_) (by rw [hg]; exact hC.nd), hg⟩
  constructor
  · intro hp
    obtain ⟨q, hq, rfl⟩ := List.mem_map.1 hp
    exact (hf q hq).1
  · intro hp
    obtain ⟨q, hq, e, _⟩ := h1 p hp
    refine List.mem_map.2 ⟨q, hq, ?_⟩
    exact hP.uniq (hf q hq).1 hp (by rw [(hf q hq).2, e])
section
variable (B c g mb : Nat) (L : List Pr) (k : Int) (w : World)
set_option maxRecDepth 100000 in
set_option maxHeartbeats 4000000 in
theorem fork_any (h : PrgAt B c w g mb L k) (hc : c < 1000000) (hl : L.length ≤ 8) : Calls Try.prog 23 #[.pointer (some ⟨g, 0, none⟩)] w fun e w' => ∃ hd mh L2, e = .returned (.pointer (some ⟨hd, 0, none⟩)) ∧ PrgAt w.heap.size (c + 8) w' hd mh L2 k ∧ gp L2 = gp L ∧ Below w.heap.size w w' := by
  obtain ⟨c0, c1⟩ := h.hcells
  have hg := h.glt
  have hml := h.mlt
  obtain ⟨D, m1, m2, m3⟩ := h.map
  have hszD := keys_size h.nd m1 m2
  rw [length_nos, length_gp] at hszD
  have hmm := @run_makeMap Try.prog
  have HC := Lib.hid h
  have M3 := Lib.hid m3
  obtain ⟨w2, hw2⟩ : ∃ w2, w2 = (w.alloc (.map #[] 0)).alloc (.cells #[.int .i64 (k - 1), .map (some w.heap.size)] 67) := ⟨_, rfl⟩
  have hB2 : Below w.heap.size w w2 := by rw [hw2]; exact ((Below.refl _ w).alloc (Nat.le_refl _) _).alloc (by simp) _
  have hs2 : w2.heap.size = w.heap.size + 2 := by rw [hw2]; simp
  have hno : ∀ q : Pr, q ∈ ([] : List Pr) → False := fun q h => (List.not_mem_nil h).elim
  have hP2 : PrgAt w.heap.size c w2 (w.heap.size + 1) w.heap.size [] k := by
    refine ⟨?_, ⟨.map [], ?_, ?_, fun q h => (hno q h).elim⟩, List.nodup_nil, fun q h => (hno q h).elim, fun q h => (hno q h).elim, fun q h => (hno q h).elim, ⟨?_, fun q h => (hno q h).elim, fun q h => (hno q h).elim⟩, ?_, ?_, fun q h => (hno q h).elim⟩
    · rw [hw2]
      have := heap_alloc_new (w.alloc (.map #[] 0)) (.cells #[.int .i64 (k - 1), .map (some w.heap.size)] 67)
      simpa using this
    · rw [hw2]; exact ((World.ownsMap_made w Try.prog 3 RV).alloc _).mono (Nat.zero_le _)
    · intro x; constructor <;> (intro h; cases h)
    · omega
    · omega
    · omega
  have M1 : Hid (w2.ownsMap Try.prog 3 RV mb c D) := (Kept.fresh (S := fun _ => False) hB2).map m1 (fun q => q)
  have c2 : w2.cell? ⟨g, 1, none⟩ = some (.map (some mb)) := (hB2.cell (p := ⟨g, 1, none⟩) hg).trans c1
  have hg2 : g < w2.heap.size := by omega
  have HSt : Hid (∀ w0, w0.ranges Try.prog 3 RV mb w2.heap.size c D (Maps.has D) (Maps.size D) → w2.grownBy w0 none → FkS w w0 g mb (w.heap.size + 1) w.heap.size w2.heap.size c L k D 0 [] (Maps.has D) (Maps.size D)) := fun w0 hr hg0 => by
    have hk := Kept.grown (S := fun _ => False) hg0 (fun _ e => by cases e)
    refine ⟨hr, fun x hx => ?_, hB2.trans (hk.below (fun _ q => q.elim) hB2.size), hP2.keep hk (fun _ _ q => q), by omega, fun p hp => (hno p hp).elim, fun q hq e => ?_⟩
    · obtain ⟨y, hy, e⟩ := List.mem_map.1 ((m2 x).1 hx)
      obtain ⟨q, hq, rfl⟩ := List.mem_map.1 hy
      exact ⟨q, hq, e⟩
    · have := (m2 q.g.n).2 (in_nos (List.mem_map.2 ⟨q, hq, rfl⟩))
      rw [e] at this; cases this
  have HS2 := Lib.hid hs2
  clear h m1 m2 m3 hP2 hB2 hs2
  go_enter Try.func23, Try.ntmps23
  have Hw2 := Lib.hid hw2
  clear hw2
  go_wp2_with (at_range; rw [← Hw2.out]; refine wpList_range_own _ rfl _ 65 rfl 3 53 lawI Try.underlying65 RV mb c D rfl M1.out ?_; intro w0 hrg0 hg0 hs0; have HE := Lib.hid (HSt.out w0 hrg0 hg0); clear hrg0 hg0 hs0)
  go_frame
  clear c0 c1 c2 hg2 HSt
  obtain ⟨r, hr⟩ : ∃ r, r = w2.heap.size := ⟨_, rfl⟩
  rw [← hr] at HE ⊢
  have hrw : w.heap.size + 2 = r := by rw [hr]; exact HS2.out.symm
  clear hr
  obtain ⟨mh, hmh⟩ : ∃ mh, mh = w.heap.size := ⟨_, rfl⟩
  have HMh := Lib.hid hmh
  obtain ⟨hd, hhd⟩ : ∃ hd, hd = w.heap.size + 1 := ⟨_, rfl⟩
  have HHd := Lib.hid hhd
  rw [← hhd, ← hmh] at HE
  rw [← hhd, ← hmh]
  clear hmh hhd
  go_loopw [4, 5] (fun _ _ wr => ∃ (left : Lit → Bool) (cnt j : Nat) (L' : List Pr), Hid (FkS w wr g mb hd mh r c L k D j L' left cnt)) (fun _ _ wr => wr.rangeLeft mb r)
  case atStart => exact ⟨_, _, 0, [], HE.out⟩
  case round =>
    obtain ⟨left, cnt, j, L', hE⟩ := hrel
    rename World => wr
    have HrgL := Lib.hid hE.out.1
    go_wp2_with (at_next; refine wpList_next_prs rfl _ rfl 3 lawI Try.underlying3 mb r c D left cnt rfl HrgL.out L hE.out.2.1 M3.out ?_ ?_)
    · intro hc0 hl0
      obtain ⟨L2, z1, z2⟩ := hE.out.done hl0 HC.out
      have hj : j ≤ 8 := by have := hE.out.2.2.2.2.1; omega
      have HZ : Hid (∃ hd' mh' L2, Ending.returned (.pointer (some ⟨hd, 0, none⟩)) = .returned (.pointer (some ⟨hd', 0, none⟩)) ∧ PrgAt w.heap.size (c + 8) wr hd' mh' L2 k ∧ gp L2 = gp L ∧ Below w.heap.size w wr) := ⟨hd, mh, L2, rfl, z1.more (by omega), z2, hE.out.2.2.1⟩
      clear hl0 hc0 z1 z2 hE HrgL
      go_wp2
      go_ret
      exact HZ.out
    · intro q w1 cnt1 hq hlx hwf hrg1 hlt hg1 hs1 hen
      obtain ⟨hrg, hX, hB, hP, hj, hp1, hp2⟩ := hE.out
      have hwr := hB.size
      have hk1 : Kept wr w1 (fun b => b = r) := Kept.grown hg1 (fun b e => by cases e; exact .inl rfl)
      have hrlt := hrg.lt
      have hB1 : Below w.heap.size w w1 := hB.trans (hk1.below (fun b e => by omega) hwr)
      have hP1 : PrgAt w.heap.size (c + j) w1 hd mh L' k := by
        refine hP.keep hk1 (fun b o e => ?_)
        subst e
        obtain ⟨es, clock, since, seen, c0', z1, F, z2, z3, z4, rest⟩ := hrg
        rcases hP.pb _ o with ⟨e1, e2, z⟩ | ⟨c1, z⟩ | ⟨c1, z⟩ <;> (rw [z4] at z; cases z)
      have hC1 := HC.out.fresh hB1
      obtain ⟨d0, d1, d2, _, hqb⟩ := hC1.ocells hq
      obtain ⟨_, dh⟩ := hP1.hcells
      have hdl := hP1.glt
      obtain ⟨D', n1, n2, n3⟩ := hP1.map
      have B1d : Hid (Below w1.heap.size w1 w1.drew) := (Below.refl _ _).drew
      have HCP : Hid (∀ V, Below w1.heap.size w1 V → Calls Try.prog 51 #[.map (some q.pm)] V fun e w' => e = .returned (.map (some V.heap.size)) ∧ SetAt w' V.heap.size c q.g.p ∧ Below V.heap.size V w' ∧ w'.heap.size = V.heap.size + 1) := fun V hV => mclone_any q.pm c q.g.p V ((hC1.pats q hq).fresh hV)
      have HCA : Hid (∀ V, Below w1.heap.size w1 V → Calls Try.prog 51 #[.map (some q.am)] V fun e w' => e = .returned (.map (some V.heap.size)) ∧ SetAt w' V.heap.size c q.g.a ∧ Below V.heap.size V w' ∧ w'.heap.size = V.heap.size + 1) := fun V hV => mclone_any q.am c q.g.a V ((hC1.ahs q hq).fresh hV)
      have HKeep : Hid (∀ V, Below w1.heap.size w1 V → V.cell? ⟨hd, 1, none⟩ = some (.map (some mh)) ∧ V.cell? ⟨q.b, 0, none⟩ = some (.int .u8 q.g.s) ∧ V.cell? ⟨q.b, 1, none⟩ = some (.map (some q.pm)) ∧ V.cell? ⟨q.b, 2, none⟩ = some (.map (some q.am))) := fun V hV =>
        ⟨(hV.cell (p := ⟨hd, 1, none⟩) hdl).trans dh, (hV.cell (p := ⟨q.b, 0, none⟩) hqb).trans d0, (hV.cell (p := ⟨q.b, 1, none⟩) hqb).trans d1, (hV.cell (p := ⟨q.b, 2, none⟩) hqb).trans d2⟩
      have HKey := Lib.hid (keyI hwf)
      have HRoom : Hid (c + j < maxLen) := by unfold Hid maxLen; omega
      have HLt := Lib.hid hlt
      have HrgO := Lib.hid hrg
      have hqno : q.g.n ∉ nos (gp L') := fun z => by
        obtain ⟨y, hy, e⟩ := List.mem_map.1 z
        obtain ⟨p, hp, rfl⟩ := List.mem_map.1 hy
        obtain ⟨q2, hq2, e2, e3⟩ := hp1 p hp
        have : q2 = q := HC.out.uniq hq2 hq (by rw [← e2, e])
        rw [this, hlx] at e3
        cases e3
      have HLay : Hid (∀ w6 x y, Below w1.heap.size w1 w6 → SetAt w6 x c q.g.p → SetAt w6 y c q.g.a → x ≠ y → w1.heap.size ≤ x → w1.heap.size ≤ y → x < w6.heap.size → y < w6.heap.size →
          ((w6.alloc (.cells #[.int .u8 q.g.s, .map (some x), .map (some y)] 63)).cell? ⟨hd, 1, none⟩ = some (.map (some mh)) ∧ (w6.alloc (.cells #[.int .u8 q.g.s, .map (some x), .map (some y)] 63)).cell? ⟨q.b, 0, none⟩ = some (.int .u8 q.g.s) ∧ (w6.alloc (.cells #[.int .u8 q.g.s, .map (some x), .map (some y)] 63)).cell? ⟨q.b, 1, none⟩ = some (.map (some q.pm)) ∧ (w6.alloc (.cells #[.int .u8 q.g.s, .map (some x), .map (some y)] 63)).cell? ⟨q.b, 2, none⟩ = some (.map (some q.am))) ∧
          (w6.alloc (.cells #[.int .u8 q.g.s, .map (some x), .map (some y)] 63)).ownsMap Try.prog 3 RV mh (c + j) D' ∧
          ∀ w8, w8.ownsMap Try.prog 3 RV mh (c + j + 1) (D'.put (.int .i64 q.g.n) (.held (.pointer (some ⟨w6.heap.size, 0, none⟩)))) → (w6.alloc (.cells #[.int .u8 q.g.s, .map (some x), .map (some y)] 63)).grownBy w8 (some mh) →
            (w8.cell? ⟨hd, 1, none⟩ = some (.map (some mh)) ∧ w8.cell? ⟨q.b, 0, none⟩ = some (.int .u8 q.g.s) ∧ w8.cell? ⟨q.b, 1, none⟩ = some (.map (some q.pm)) ∧ w8.cell? ⟨q.b, 2, none⟩ = some (.map (some q.am))) ∧
            Hid (FkS w w8 g mb hd mh r c L k D (j + 1) (L' ++ [⟨q.g, w6.heap.size, x, y⟩]) (fun z => left z && !z.sameKey (.int .i64 q.g.n)) cnt1)) := fun w6 x y hb6 hx hy hxy hx1 hy1 hx2 hy2 => by
        have hb7 : Below w1.heap.size w1 (w6.alloc (.cells #[.int .u8 q.g.s, .map (some x), .map (some y)] 63)) := hb6.alloc hb6.size _
        have hb67 : Below w6.heap.size w6 (w6.alloc (.cells #[.int .u8 q.g.s, .map (some x), .map (some y)] 63)) := (Below.refl _ w6).alloc (Nat.le_refl _) _
        refine ⟨HKeep.out _ hb7, (Kept.fresh (S := fun _ => False) hb7).map n1 (fun q => q), fun w8 hm8 hg8 => ?_⟩
        have hmd : mh ≠ hd := by have := HMh.out; have := HHd.out; omega
        have hqbw : q.b < w.heap.size := HC.out.lt _ (.inr (.inr ⟨q, hq, .inl rfl⟩))
        have hk8 : Kept w1 w8 (fun b => b = mh) := (Kept.fresh (S := fun b => b = mh) hb7).trans (Kept.grown (S := fun b => b = mh) hg8 (fun b e => by cases e; exact .inl rfl)) (fun b e => .inl e)
        have hkk8 : Kept w6 w8 (fun b => b = mh) := (Kept.fresh (S := fun b => b = mh) hb67).trans (Kept.grown (S := fun b => b = mh) hg8 (fun b e => by cases e; exact .inl rfl)) (fun b e => .inl e)
        have hmw1 : mh < w1.heap.size := hP1.mlt
        have hz8 : w8.heap[w6.heap.size]? = some (.cells #[.int .u8 q.g.s, .map (some x), .map (some y)] 63 (0, 0)) := (hg8.block _ (by simp) (fun e => by have := Option.some.inj e; have := hb6.size; omega)).trans (heap_alloc_new w6 _)
        refine ⟨⟨(hk8.cell (a := ⟨hd, 1, none⟩) hdl (fun e => hmd e.symm)).trans dh, (hk8.cell (a := ⟨q.b, 0, none⟩) hqb (fun e => by dsimp only at e; have := HMh.out; omega)).trans d0, (hk8.cell (a := ⟨q.b, 1, none⟩) hqb (fun e => by dsimp only at e; have := HMh.out; omega)).trans d1, (hk8.cell (a := ⟨q.b, 2, none⟩) hqb (fun e => by dsimp only at e; have := HMh.out; omega)).trans d2⟩, hk8.ranges hrg1 (fun e => by have := HMh.out; omega) (fun e => by have := HMh.out; omega), fun z hz => hX z (by simp only [Bool.and_eq_true] at hz; exact hz.1), hB1.trans (hk8.below (fun b e => by have := HMh.out; omega) hB1.size), ?_, by omega, fun p hp => ?_, fun q2 hq2 e => ?_⟩
        · have hnos : nos (gp (L' ++ [⟨q.g, w6.heap.size, x, y⟩])) = nos (gp L') ++ [q.g.n] := by simp [gp, nos]
          have h6s := hb6.size
          refine hP1.ins (d := c + (j + 1)) _ ⟨q.g, w6.heap.size, x, y⟩ (fun p => by simp) ?_ hqno hk8 (fun b e => .inr e) (by omega) ((hk8.block hd hdl (fun e => hmd e.symm)).trans hP1.head) n1.isMap n2 n3 hm8 hz8 ((hx.keep hkk8 (fun e => by omega)).more (by omega)) ((hy.keep hkk8 (fun e => by omega)).more (by omega)) ?_ ?_ hB1.size
          · rw [hnos]
            exact List.nodup_append.2 ⟨hP1.nd, by simp, fun a ha b hb e => hqno (by rw [List.mem_singleton] at hb; rw [← hb, ← e]; exact ha)⟩
          · rintro b (e | e | e) <;> (dsimp only at e; omega)
          · show w6.heap.size ≠ x ∧ w6.heap.size ≠ y ∧ x ≠ y
            omega
        · rcases List.mem_append.1 hp with z | z
          · obtain ⟨q2, hq2, e2, e3⟩ := hp1 p z
            exact ⟨q2, hq2, e2, by simp [e3]⟩
          · rw [List.mem_singleton] at z
            rw [z]
            exact ⟨q, hq, rfl, strike_self left _⟩
        · by_cases e3 : q2.g.n = q.g.n
          · exact ⟨⟨q.g, w6.heap.size, x, y⟩, by simp, by rw [HC.out.uniq hq2 hq e3]⟩
          · rw [strike_other left e3] at e
            obtain ⟨p, hp, e4⟩ := hp2 q2 hq2 e
            exact ⟨p, List.mem_append_left _ hp, e4⟩
      have X7 := Lib.hid (HKeep.out _ B1d.out)
      clear hrg hX hB hP hj hp1 hp2 hwr hk1 hrlt hB1 hP1 hC1 hdl n1 n2 n3 hrg1 hlt hg1 hs1 hwf hlx hqno hE HrgL d0 d1 d2 dh hqb
      generalize q.g.n = n0 at *
      generalize q.g.s = s0 at *
      generalize q.g.p = ps at *
      generalize q.g.a = aas at *
      generalize q.b = qb at *
      generalize q.pm = qm at *
      generalize q.am = qa at *
      go_wp2_with fail
      refine wp_region_held_drew (S := (fun V => V.cell? ⟨hd, 1, none⟩ = some (.map (some mh)) ∧ V.cell? ⟨qb, 0, none⟩ = some (.int .u8 s0) ∧ V.cell? ⟨qb, 1, none⟩ = some (.map (some qm)) ∧ V.cell? ⟨qb, 2, none⟩ = some (.map (some qa)))) (by kernel_rfl) (X7.out) (fun hHeld => ?_)
      refine takeH (i := 0) (some 25) (v := ?_) rfl rfl (by kernel_rfl) (by kernel_rfl) (by kernel_rfl) (fun _ _ _ h => h) (by rfl) ?_ (by assumption) ?_
      rotate_left
      · (intro w hSw; (try dsimp only at hSw); go_simp; try with_reducible rfl)
      simp only [Act.put, List.setIfInBounds_toArray, List.set_cons_zero, List.set_cons_succ]
      refine takeH (i := 1) (some 26) (v := ?_) rfl rfl (by kernel_rfl) (by kernel_rfl) (by kernel_rfl) (fun _ _ _ h => h) (by rfl) ?_ (by assumption) ?_
      rotate_left
      · (intro w hSw; (try dsimp only at hSw); go_simp; try with_reducible rfl)
      simp only [Act.put, List.setIfInBounds_toArray, List.set_cons_zero, List.set_cons_succ]
      refine takeH (i := 2) (some 27) (v := ?_) rfl rfl (by kernel_rfl) (by kernel_rfl) (by kernel_rfl) (fun _ _ _ h => h) (by rfl) ?_ (by assumption) ?_
      rotate_left
      · (intro w hSw; (try dsimp only at hSw); go_simp; try with_reducible rfl)
      simp only [Act.put, List.setIfInBounds_toArray, List.set_cons_zero, List.set_cons_succ]
      refine takeH (i := 3) (some 28) (v := ?_) rfl rfl (by kernel_rfl) (by kernel_rfl) (by kernel_rfl) (fun _ _ _ h => h) (by rfl) ?_ (by assumption) ?_
      rotate_left
      · (intro w hSw; (try dsimp only at hSw); go_simp; try with_reducible rfl)
      simp only [Act.put, List.setIfInBounds_toArray, List.set_cons_zero, List.set_cons_succ]
      refine takeH (i := 4) (some 29) (v := ?_) rfl rfl (by kernel_rfl) (by kernel_rfl) (by kernel_rfl) (fun _ _ _ h => h) (by rfl) ?_ (by assumption) ?_
      rotate_left
      · (intro w hSw; (try dsimp only at hSw); go_simp; try with_reducible rfl)
      simp only [Act.put, List.setIfInBounds_toArray, List.set_cons_zero, List.set_cons_succ]
      refine takeH (i := 5) (some 30) (v := ?_) rfl rfl (by kernel_rfl) (by kernel_rfl) (by kernel_rfl) (fun _ _ _ h => h) (by rfl) ?_ (by assumption) ?_
      rotate_left
      · (intro w hSw; (try dsimp only at hSw); go_simp; try with_reducible rfl)
      simp only [Act.put, List.setIfInBounds_toArray, List.set_cons_zero, List.set_cons_succ]
      refine takeH (i := 6) (some 31) (v := ?_) rfl rfl (by kernel_rfl) (by kernel_rfl) (by kernel_rfl) (fun _ _ _ h => h) (by rfl) ?_ (by assumption) ?_
      rotate_left
      · (intro w hSw; (try dsimp only at hSw); go_simp; try with_reducible rfl)
      simp only [Act.put, List.setIfInBounds_toArray, List.set_cons_zero, List.set_cons_succ]
      refine takeH (i := 7) (some 32) (v := ?_) rfl rfl (by kernel_rfl) (by kernel_rfl) (by kernel_rfl) (fun _ _ _ h => h) (by rfl) ?_ (by assumption) ?_
      rotate_left
      · (intro w hSw; (try dsimp only at hSw); go_simp; try with_reducible rfl)
      simp only [Act.put, List.setIfInBounds_toArray, List.set_cons_zero, List.set_cons_succ]
      refine takeH (i := 8) (some 33) (v := ?_) rfl rfl (by kernel_rfl) (by kernel_rfl) (by kernel_rfl) (fun _ _ _ h => h) (by rfl) ?_ (by assumption) ?_
      rotate_left
      · (intro w hSw; (try dsimp only at hSw); go_simp; try with_reducible rfl)
      simp only [Act.put, List.setIfInBounds_toArray, List.set_cons_zero, List.set_cons_succ]
      refine takeH (i := 9) (some 34) (v := ?_) rfl rfl (by kernel_rfl) (by kernel_rfl) (by kernel_rfl) (fun _ _ _ h => h) (by rfl) ?_ (by assumption) ?_
      rotate_left
      · (intro w hSw; (try dsimp only at hSw); go_simp; try with_reducible rfl)
      simp only [Act.put, List.setIfInBounds_toArray, List.set_cons_zero, List.set_cons_succ]
      refine takeH (i := 10) (some 35) (v := ?_) rfl rfl (by kernel_rfl) (by kernel_rfl) (by kernel_rfl) (fun _ _ _ h => h) (by rfl) ?_ (by assumption) ?_
      rotate_left
      · (intro w hSw; (try dsimp only at hSw); go_simp; try with_reducible rfl)
      simp only [Act.put, List.setIfInBounds_toArray, List.set_cons_zero, List.set_cons_succ]
      refine takeH (i := 11) (some 36) (v := ?_) rfl rfl (by kernel_rfl) (by kernel_rfl) (by kernel_rfl) (fun _ _ _ h => h) (by rfl) ?_ (by assumption) ?_
      rotate_left
      · (intro w hSw; (try dsimp only at hSw); go_simp; try with_reducible rfl)
      simp only [Act.put, List.setIfInBounds_toArray, List.set_cons_zero, List.set_cons_succ]
      refine takeH (i := 12) (some 37) (v := ?_) rfl rfl (by kernel_rfl) (by kernel_rfl) (by kernel_rfl) (fun _ _ _ h => h) (by rfl) ?_ (by assumption) ?_
      rotate_left
      · (intro w hSw; (try dsimp only at hSw); go_simp; try with_reducible rfl)
      simp only [Act.put, List.setIfInBounds_toArray, List.set_cons_zero, List.set_cons_succ]
      refine takeH (i := 14) (some 39) (v := ?_) rfl rfl (by kernel_rfl) (by kernel_rfl) (by kernel_rfl) (fun _ _ _ h => h) (by rfl) ?_ (by assumption) ?_
      rotate_left
      · (intro w hSw; (try dsimp only at hSw); go_simp; try with_reducible rfl)
      simp only [Act.put, List.setIfInBounds_toArray, List.set_cons_zero, List.set_cons_succ]
      refine takeH (i := 15) (some 40) (v := ?_) rfl rfl (by kernel_rfl) (by kernel_rfl) (by kernel_rfl) (fun _ _ _ h => h) (by rfl) ?_ (by assumption) ?_
      rotate_left
      · (intro w hSw; (try dsimp only at hSw); go_simp; try with_reducible rfl)
      simp only [Act.put, List.setIfInBounds_toArray, List.set_cons_zero, List.set_cons_succ]
      refine takeH (i := 16) (some 41) (v := ?_) rfl rfl (by kernel_rfl) (by kernel_rfl) (by kernel_rfl) (fun _ _ _ h => h) (by rfl) ?_ (by assumption) ?_
      rotate_left
      · (intro w hSw; (try dsimp only at hSw); go_simp; try with_reducible rfl)
      simp only [Act.put, List.setIfInBounds_toArray, List.set_cons_zero, List.set_cons_succ]
      refine takeH (i := 17) (some 42) (v := ?_) rfl rfl (by kernel_rfl) (by kernel_rfl) (by kernel_rfl) (fun _ _ _ h => h) (by rfl) ?_ (by assumption) ?_
      rotate_left
      · (intro w hSw; (try dsimp only at hSw); go_simp; try with_reducible rfl)
      simp only [Act.put, List.setIfInBounds_toArray, List.set_cons_zero, List.set_cons_succ]
      refine wpAnyH_ready (rs := [13]) (by kernel_rfl) (by simp) ?_
      refine AllReadyH.cons rfl (fun K hK => ?_) AllReadyH.nil
      go_simp
      refine (HCP.out _ B1d.out).mono ?_
      rintro e w5 ⟨rfl, hs5, hb5, hz5⟩
      have HS5 := Lib.hid hs5
      have HB5 := Lib.hid (B1d.out.trans (hb5.mono (Nat.le_refl _)))
      have HZ5 := Lib.hid hz5
      clear hs5 hb5 hz5
      refine hK _ _ (HKeep.out _ HB5.out) (fun hHeld => ?_)
      clear hK K
      try simp only [Act.put, List.setIfInBounds_toArray, List.set_cons_zero, List.set_cons_succ]
      refine wpAnyH_ready (rs := [18]) (by kernel_rfl) (by simp) ?_
      refine AllReadyH.cons rfl (fun K hK => ?_) AllReadyH.nil
      go_simp
      refine (HCA.out _ HB5.out).mono ?_
      rintro e w6 ⟨rfl, hs6, hb6, hz6⟩
      have HS6 := Lib.hid hs6
      have HS56 := Lib.hid (HS5.out.fresh hb6)
      have HB6 := Lib.hid (HB5.out.trans (hb6.mono HB5.out.size))
      have HZ6 := Lib.hid hz6
      clear hs6 hb6 hz6
      refine hK _ _ (HKeep.out _ HB6.out) (fun hHeld => ?_)
      clear hK K
      try simp only [Act.put, List.setIfInBounds_toArray, List.set_cons_zero, List.set_cons_succ]
      refine takeH (i := 19) (some 44) (v := ?_) rfl rfl (by kernel_rfl) (by kernel_rfl) (by kernel_rfl) (fun _ _ _ h => h) (by rfl) ?_ (by assumption) ?_
      rotate_left
      · (intro w hSw; (try dsimp only at hSw); go_simp; try with_reducible rfl)
      simp only [Act.put, List.setIfInBounds_toArray, List.set_cons_zero, List.set_cons_succ]
      refine wpAnyH_ready (rs := [20]) (by kernel_rfl) (by simp) ?_
      refine AllReadyH.cons rfl (fun K hK => ?_) AllReadyH.nil
      go_simp
      have Z := Lib.hid (HLay.out w6 w1.drew.heap.size w5.heap.size HB6.out HS56.out HS6.out (by have h5 := HZ5.out; have h6 := HZ6.out; have h7 : w1.drew.heap.size = w1.heap.size := rfl; omega) (by have h5 := HZ5.out; have h6 := HZ6.out; have h7 : w1.drew.heap.size = w1.heap.size := rfl; omega) (by have h5 := HZ5.out; have h6 := HZ6.out; have h7 : w1.drew.heap.size = w1.heap.size := rfl; omega) (by have h5 := HZ5.out; have h6 := HZ6.out; have h7 : w1.drew.heap.size = w1.heap.size := rfl; omega) (by have h5 := HZ5.out; have h6 := HZ6.out; have h7 : w1.drew.heap.size = w1.heap.size := rfl; omega))
      refine hK _ _ (Z.out.1) (fun hHeld => ?_)
      clear hK K
      try simp only [Act.put, List.setIfInBounds_toArray, List.set_cons_zero, List.set_cons_succ]
      refine wpAnyH_ready (rs := [21]) (by kernel_rfl) (by simp) ?_
      refine AllReadyH.cons rfl (fun K hK => ?_) AllReadyH.nil
      refine step_of rfl (wp_update_held (.tmp 28) (.tmp 29) (.tmp 45) 65 rfl 3 53 lawI Try.underlying65 mh (c + j) D' rfl Z.out.2.1 HRoom.out _ _ _ rfl rfl HKey.out ?_)
      intro w8 hm8 hg8
      have U := Lib.hid (Z.out.2.2 w8 hm8 hg8)
      clear hm8 hg8
      refine hK _ _ (U.out.1) (fun hHeld => ?_)
      clear hK K
      try simp only [Act.put, List.setIfInBounds_toArray, List.set_cons_zero, List.set_cons_succ]
      refine wpAnyH_done (by kernel_rfl) ?_ _
      go_wp2_with fail
      go_roundw
      case rel => exact ⟨_, cnt1, j + 1, _, U.out.2⟩
      case measure => have := HLt.out; rw [U.out.2.out.1.left_eq, HrgO.out.left_eq]; omega
end
end Go.Proofs.Ytdndchoghhllmaa
