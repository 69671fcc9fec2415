/- The disk and patches: DKK DKL DKM DKN DP. -/
import Derived.Test.YtkldiofleepkfaaH3
import Derived.Test.YtkldiofleepkfaaSh
import Derived.Maps.AppendAt
import Derived.Laws.Cover3
/- Which blocks wait, in order; what a crash leaves; a block of which nothing waits any more; the keys of the map, sorted. -/
set_option linter.unusedVariables false
set_option linter.unusedSimpArgs false
namespace Go.Proofs.Ytkldiofleepkfaa
open Go.RowKit

/-- the blocks of which something waits -/
def waits (n : Nat) (S : Nat → Bk) : List Nat := (List.range n).filter fun j => !(S j).v.isEmpty
theorem mem_waits {n : Nat} {S : Nat → Bk} {j : Nat} : j ∈ waits n S ↔ j < n ∧ (S j).v ≠ [] := by
  unfold waits
  rw [List.mem_filter, List.mem_range]
  refine and_congr_right fun _ => ?_
  cases (S j).v <;> simp
theorem waits_sorted (n : Nat) (S : Nat → Bk) : (waits n S).Pairwise (· < ·) := List.Pairwise.filter _ List.pairwise_lt_range
theorem waits_nodup (n : Nat) (S : Nat → Bk) : (waits n S).Nodup := (waits_sorted n S).imp (fun h => Nat.ne_of_lt h)
/-- what a crash leaves of a block, by what is picked for it -/
def Bk.left (b : Bk) (p : Option Int) : Bk := ⟨(p.bind (pickAt b.v)).getD b.s, [], b.b⟩
/-- what a crash leaves -/
def crashed (n : Nat) (S : Nat → Bk) (pick : List Int) : Nat → Bk := fun j => (S j).left (pick[(waits n S).idxOf j]?)
/-- .. on the way: the first k blocks of which something waits are done -/
def crashK (n : Nat) (S : Nat → Bk) (pick : List Int) (k : Nat) : Nat → Bk := fun j => if j ∈ (waits n S).take k then crashed n S pick j else S j
theorem crashK_zero (n : Nat) (S : Nat → Bk) (pick : List Int) : crashK n S pick 0 = S := by funext j; simp [crashK]
theorem idx_at {l : List Nat} (h : l.Nodup) {k : Nat} (hk : k < l.length) : l.idxOf l[k] = k := h.idxOf_getElem k hk
theorem crashK_next (n : Nat) (S : Nat → Bk) (pick : List Int) {k : Nat} (hk : k < (waits n S).length) : crashK n S pick (k + 1) = upd (crashK n S pick k) (waits n S)[k] ((S (waits n S)[k]).left pick[k]?) := by
  funext j
  by_cases e : j = (waits n S)[k]
  · subst e
    rw [upd_same]
    unfold crashK crashed
    rw [if_pos (by rw [List.take_succ_eq_append_getElem hk]; exact List.mem_append_right _ (List.mem_singleton.2 rfl)), idx_at (waits_nodup n S) hk]
  · rw [upd_other _ _ e]
    unfold crashK
    have : (j ∈ (waits n S).take (k + 1)) ↔ j ∈ (waits n S).take k := by
      rw [List.take_succ_eq_append_getElem hk, List.mem_append, List.mem_singleton]
      exact ⟨fun h => h.resolve_right e, .inl⟩
    simp only [this]
theorem crashK_now (n : Nat) (S : Nat → Bk) (pick : List Int) {k : Nat} (hk : k < (waits n S).length) : crashK n S pick k (waits n S)[k] = S (waits n S)[k] := by
  unfold crashK
  rw [if_neg]
  intro h
  obtain ⟨i, hi, e⟩ := List.mem_take_iff_getElem.1 h
  have := (List.getElem_inj (waits_nodup n S)).1 e
  omega
theorem crashK_end (n : Nat) (S : Nat → Bk) (pick : List Int) {j : Nat} (hj : j < n) : crashK n S pick (waits n S).length j = crashed n S pick j := by
  unfold crashK
  rw [List.take_length]
  split
  · rfl
  · next h =>
    have hv : (S j).v = [] := by
      refine Classical.byContradiction fun e => h (mem_waits.2 ⟨hj, e⟩)
    unfold crashed Bk.left
    have : ∀ o : Option Int, o.bind (pickAt (S j).v) = none := by
      intro o
      rw [hv]
      cases o with
      | none => rfl
      | some p => simp [pickAt]
    rw [this]
    cases hS : S j with
    | mk s v b => rw [hS] at hv; simp at hv; subst hv; rfl
theorem CodeAt.congr {w : World} {g n c mb k : Nat} {S S' : Nat → Bk} {L : List Int} {B : List Bool} {D : DataW Value} {V : Nat → List Run} {A : Nat → Option Addr} {C : Nat → Nat} (h : CodeAt w g n S c L B mb k D V A C) (e : ∀ j, j < n → S j = S' j) : CodeAt w g n S' c L B mb k D V A C :=
  ⟨h.disk, h.map, h.kc, h.keys, h.here, h.gone, h.row, h.ok, fun j hj => by rw [← e j hj]; exact h.sec j hj, fun j hj => by rw [← e j hj]; exact h.bad j hj, fun j hj => by rw [← e j hj]; exact h.ver j hj, fun j hj => by rw [← e j hj]; exact h.few j hj, h.apart⟩
section
variable {w w' : World} {g n c mb k : Nat} {S : Nat → Bk} {L : List Int} {B : List Bool} {D : DataW Value} {V : Nat → List Run} {A : Nat → Option Addr} {C : Nat → Nat}
theorem CodeAt.drop (h : CodeAt w g n S c L B mb k D V A C) {i : Nat} (hi : i < n) {L' : List Int} {s' : List Int} (hd : DiskAt w' g n L' B mb) (hs : ∀ j, j < n → Go.Proofs.Ytkldiofleepkfaa.sec L' j = if j = i then s' else Go.Proofs.Ytkldiofleepkfaa.sec L j)
    (hm : w'.ownsMap Try.prog 3 RV mb k (D.del (.int .i64 (i : Int)))) (hk : Kept w w' (fun b => b = g ∨ b = mb)) :
    CodeAt w' g n (upd S i ⟨s', [], (S i).b⟩) c L' B mb k (D.del (.int .i64 (i : Int))) (fun j => if j = i then [] else V j) (fun j => if j = i then none else A j) (fun j => if j = i then 0 else C j) ∧
      ∀ b, foot g n mb (fun j => if j = i then none else A j) b → foot g n mb A b := by
  refine ⟨⟨hd, hm, h.kc, ?_, ?_, ?_, ?_, ?_, ?_, ?_, ?_, ?_, ?_⟩, ?_⟩
  · intro x hx
    by_cases e : (Lit.int .i64 x) = .int .i64 (i : Int)
    · injection e with _ e; exact ⟨i, e, hi⟩
    · rw [Maps.has_del_other e] at hx; exact h.keys x hx
  · intro j hj hne z
    by_cases e : j = i
    · subst e; simp at hne
    · simp only [if_neg e] at hne ⊢
      rw [Maps.atKey_del_other (key_ne e)]
      exact h.here j hj hne z
  · intro j hj he
    by_cases e : j = i
    · subst e; exact ⟨Maps.has_del_same, by simp, by simp⟩
    · simp only [if_neg e] at he ⊢
      rw [Maps.has_del_other (key_ne e)]
      exact h.gone j hj he
  · intro j hj
    by_cases e : j = i
    · subst e; simp only [if_true]; exact World.ownsRow_nil _ _ _ _
    · simp only [if_neg e]
      refine hk.row (h.row j hj) fun b hb => ?_
      rw [own_eq] at hb
      rintro (q | q)
      · exact h.row_g hj hb q
      · exact h.row_m hj hb q
  · intro j hj
    by_cases e : j = i
    · subst e; simp only [if_true]; intro x hx; cases hx
    · simpa only [if_neg e] using h.ok j hj
  · intro j hj
    rw [hs j hj]
    by_cases e : j = i
    · subst e; rw [upd_same]; simp
    · rw [upd_other _ _ e, if_neg e]; exact h.sec j hj
  · intro j hj
    by_cases e : j = i
    · subst e; rw [upd_same]; exact h.bad j hj
    · rw [upd_other _ _ e]; exact h.bad j hj
  · intro j hj
    by_cases e : j = i
    · subst e; rw [upd_same]; simp [unrun]
    · rw [upd_other _ _ e]; simpa only [if_neg e] using h.ver j hj
  · intro j hj
    by_cases e : j = i
    · subst e; rw [upd_same]; simp
    · rw [upd_other _ _ e]; exact h.few j hj
  · intro x y hx hy hxy b hb
    by_cases e1 : x = i
    · subst e1; simp [own] at hb
    · by_cases e2 : y = i
      · subst e2; simp [own]
      · simp only [if_neg e1, if_neg e2] at hb ⊢
        exact h.apart x y hx hy hxy b hb
  · rintro b (q | q | ⟨j, hj, q⟩)
    · exact .inl q
    · exact .inr (.inl q)
    · by_cases e : j = i
      · subst e; simp [own] at q
      · simp only [if_neg e] at q
        exact .inr (.inr ⟨j, hj, q⟩)
/-- the keys of the map, sorted -/
def ks (n : Nat) (S : Nat → Bk) : List Int := (waits n S).map Int.ofNat
theorem CodeAt.keys_sorted (h : CodeAt w g n S c L B mb k D V A C) {ss : List Int} (hp : ss.Perm (intKeys D)) : ss.mergeSort (fun x y => decide (x ≤ y)) = ks n S := by
  have hks : (ks n S).Pairwise (· < ·) := by
    unfold ks
    rw [List.pairwise_map]
    exact (waits_sorted n S).imp (fun h => by simpa using h)
  have hp2 : (ks n S).Perm (intKeys D) := by
    obtain ⟨es, hD, hpw, hk⟩ := h.map.entries law3
    obtain ⟨es', hD', hko⟩ := h.map.keysOf
    obtain rfl : es = es' := by rw [hD] at hD'; simpa using hD'
    subst hD
    refine perm_intKeys hpw (fun p hp => by obtain ⟨v, hv⟩ := hko p hp; obtain ⟨x, _, hx, _⟩ := Maps.keyOf_i64 Try.underlying3 hv; exact ⟨x, hx⟩) (hks.imp (fun h e => by omega)) (fun x => ?_)
    unfold ks
    rw [List.mem_map]
    constructor
    · rintro ⟨j, hj, rfl⟩
      obtain ⟨h1, h2⟩ := mem_waits.1 hj
      have := h.has_eq h1
      rw [show Int.ofNat j = (j : Int) from rfl, this]
      have hv := h.ver j h1
      cases e : V j with
      | nil => rw [e] at hv; exact absurd hv.symm h2
      | cons a b => rfl
    · intro hx
      obtain ⟨j, rfl, hj⟩ := h.keys x hx
      rw [h.has_eq hj] at hx
      refine ⟨j, mem_waits.2 ⟨hj, ?_⟩, rfl⟩
      rw [← h.ver j hj]
      intro e
      rw [(unrun_nil (h.ok j hj)).1 e] at hx
      simp at hx
  rw [mergeSort_of_perm_i (hp.trans hp2.symm)]
  refine List.mergeSort_of_pairwise (hks.imp (fun h => ?_))
  simp only [leI, decide_eq_true_eq]
  exact Int.le_of_lt h
end
theorem sorts39 (m : Nat) : AnyZI.SortsIn Try.prog Try.sorted21_ren Fence.wide m :=
  ⟨fun blk off cap ss W hH hblk hsz => callsIn_wide.2 (AnyM.slices_Sort_int Try.sort42 blk off cap ss W hH hblk hsz),
   fun p cap W => callsIn_wide.2 (AnyM.slices_Sort_int_none Try.sort42 p cap W)⟩
end Go.Proofs.Ytkldiofleepkfaa

/- The contract of 'Crash'. -/
set_option linter.unusedVariables false
set_option linter.unusedSimpArgs false
namespace Go.Proofs.Ytkldiofleepkfaa
open Go.RowKit

section
variable {P : Program} {o : Oper} {w : World}
theorem exec_lookup {ev : Operand → Value} (m x : Operand) (t : TypeId) (ho : o.op = Op.lookup t m x false) (k e : TypeId) (K : Go.Maps.Keyed P k) (ht : P.underlying t = some (.map k e)) {z : Value} (hz : (zeroValue e).run P w = .ok z w) (b n : Nat) (D : DataW Value)
    (hm : ev m = .map (some b)) (hown : w.ownsMap P k RV b n D) (key : Value) (kl : Lit) (hx : ev x = key) (hkey : keyOf P k key = some kl) (v : Value) (hat : D.atKey kl (.held z) = .held v) : (execOp ev o).run P w = .ok (.value v) w := by
  obtain ⟨u, ps, hrun, hv⟩ := hown.lookup K ht hz (zd := .held z) (zp := []) rfl hkey
  have : u = v := by
    rw [hat] at hv
    simp [RV] at hv
    exact hv.1
  subst this
  simp [execOp, ho, hm, hx, hrun, Result.andThen]
end
/-- what a slice of picks holds, apart from the blocks F -/
def PickAt (w : World) (F : Nat → Prop) (P : Option Addr) (pick : List Int) : Prop := pick = [] ∨ ∃ b o, P = some ⟨b, o, none⟩ ∧ b < w.heap.size ∧ ¬ F b ∧ w.rangeAt b o (pick.map encZ)
/-- a crash under way -/
def CrS (w wr : World) (g n c : Nat) (S : Nat → Bk) (pick : List Int) (B : List Bool) (mb kk : Nat) (A : Nat → Option Addr) (k : Nat) : Prop :=
  ∃ L' D' V' A' C', CodeAt wr g n (crashK n S pick k) c L' B mb kk D' V' A' C' ∧ (∀ b, foot g n mb A' b → foot g n mb A b) ∧ Kept w wr (foot g n mb A)
theorem okS_unrun {V : List Run} (h : OkV V) {s : List Int} (hs : s ∈ unrun V) : OkS s := by
  obtain ⟨x, hx, hm⟩ := List.mem_flatMap.1 hs
  obtain rfl := (List.mem_replicate.1 hm).2
  exact ⟨(h x hx).1, (h x hx).2.1⟩
theorem pickAt_mem {l : List (List Int)} {p : Int} {s : List Int} (h : pickAt l p = some s) : s ∈ l := by
  unfold pickAt at h
  split at h
  · exact List.mem_of_getElem? h
  · cases h
end Go.Proofs.Ytkldiofleepkfaa

/- Appends of a slice that may be nil; the contract of 'slices.Clone' of rows. -/
set_option linter.unusedVariables false
set_option linter.unusedSimpArgs false
namespace Go.Proofs.Ytkldiofleepkfaa
open Go.RowKit

theorem own_form {w : World} {B n : Nat} {e : TypeId} {size : Nat} {v : Value} {xs : List Value} (h : w.ownsRow B e size v n xs) : ∃ A c, v = .slice A n c := by
  rcases h.2 with ⟨rfl, h0⟩ | ⟨k, cap, cur, rfl, _⟩
  · exact ⟨none, 0, by rw [h0]⟩
  · exact ⟨_, cap, rfl⟩
section
variable {P : Program} {ops : Array Oper} {o : Oper} {a : Act} {w : World}
/-- append of a slice that may be nil onto a row of the call's own -/
theorem run_append_src (w : World) (base : Nat) (t ty e : TypeId) (i : TypeInfo) (z : Value) (size bytes : Nat) (ht : P.underlying t = some (.slice e)) (hi : P.info? e = some i) (hz : i.zero = some z)
    (hsize : i.size = size) (hby : i.bytes = bytes) (hzs : z.cells.size = size) (hsz : 0 < size)
    (v : Value) (n : Nat) (xs : List Value) (hown : w.ownsRow base e size v n xs)
    (A : Option Addr) (m c : Nat) (news : List Value) (hl : news.length = m * size) (hsrc : ∀ ad, A = some ad → ∀ j u, news[j]? = some u → w.cell? (ad.add j) = some u) (hnil : A = none → m = 0) (h1 : ∀ u ∈ news, u.oneCell' = true)
    (h63 : n + m ≤ maxLen) (hbytes : (n + m) * bytes ≤ 140737488355328) (hbase : base ≤ w.heap.size) :
    ∃ v' w', (Builtin.append_ #[t, t] ty #[v, .slice A m c]).run P w = .ok v' w' ∧ w'.ownsRow base e size v' (n + m) (xs ++ news) ∧ w.grownBy w' v.ownBlock ∧ (v'.ownBlock = v.ownBlock ∨ v'.ownBlock = some w.heap.size) := by
  rcases A with _ | ad
  · have hm := hnil rfl
    subst hm
    have hn : news = [] := List.eq_nil_of_length_eq_zero (by simpa using hl)
    subst hn
    refine ⟨v, w, ?_, by simpa using hown, World.grownBy.refl w _, .inl rfl⟩
    rcases hown.2 with ⟨rfl, rfl⟩ | ⟨g, cap, cur, rfl, _, _, hnc, _⟩
    · simp [Builtin.append_, run_underlying ht, sizeOf, typeInfo, hi, Builtin.lenOf, Builtin.firstCells]
    · simp [Builtin.append_, run_underlying ht, sizeOf, typeInfo, hi, Builtin.lenOf, Builtin.firstCells, hnc, storeCells]
  · obtain ⟨v', w', hr, h2, h3, _, h5⟩ := run_append_own_at (P := P) w base t ty e i z size bytes ht hi hz hsize hby hzs hsz v n xs hown ad m c news hl (hsrc ad rfl) h1 h63 hbytes hbase
    exact ⟨v', w', hr, h2, h3, h5⟩
theorem step_append_src {K : Act → World → Prop} {Q : Exit → Act → World → Prop} {EE : Prop} (hgd : o.guard = none) (s x : Operand) (t : TypeId)
    (hop : o.op = .call { callee := .builtin .append, args := #[s, x], argTypes := #[t, t] })
    (base : Nat) (e : TypeId) (i : TypeInfo) (z : Value) (size bytes : Nat) (ht : P.underlying t = some (.slice e)) (hi : P.info? e = some i) (hz : i.zero = some z)
    (hsize : i.size = size) (hby : i.bytes = bytes) (hzs : z.cells.size = size) (hsz : 0 < size)
    (v : Value) (n : Nat) (xs : List Value) (hs : a.eval s = v) (hown : w.ownsRow base e size v n xs)
    (A : Option Addr) (m c : Nat) (news : List Value) (hx : a.eval x = .slice A m c) (hl : news.length = m * size) (hsrc : ∀ ad, A = some ad → ∀ j u, news[j]? = some u → w.cell? (ad.add j) = some u) (hnil : A = none → m = 0) (h1 : ∀ u ∈ news, u.oneCell' = true)
    (h63 : n + m ≤ maxLen) (hbytes : (n + m) * bytes ≤ 140737488355328) (hbase : base ≤ w.heap.size) (q : Nat) (hq : n + m = q)
    (hK : ∀ A' c' w', w'.ownsRow base e size (.slice A' q c') q (xs ++ news) → w.grownBy w' v.ownBlock → ((Value.slice A' q c').ownBlock = v.ownBlock ∨ (Value.slice A' q c').ownBlock = some w.heap.size) → K (a.put o.dst (.slice A' q c')) w') :
    if Region.wanted o (yielded ops a.tmps) = true then Oper.wp P o a w K Q else EE := by
  subst hq
  have hw : Region.wanted o (yielded ops a.tmps) = true := by simp [Region.wanted, hgd]
  rw [if_pos hw]
  obtain ⟨v', w', hrun, r1, r2, r3⟩ := run_append_src (P := P) w base t o.type e i z size bytes ht hi hz hsize hby hzs hsz v n xs hown A m c news hl hsrc hnil h1 h63 hbytes hbase
  obtain ⟨A', c', rfl⟩ := own_form r1
  unfold Oper.wp
  simp [execOp, hop, resolve, invoke, builtin, hs, hx, hrun, Result.andThen]
  exact hK A' c' w' r1 r2 r3
theorem wpList_append_src {rest : List Oper} {Q : Exit → Act → World → Prop} (hgd : o.guard = none) (s x : Operand) (t : TypeId)
    (hop : o.op = .call { callee := .builtin .append, args := #[s, x], argTypes := #[t, t] })
    (base : Nat) (e : TypeId) (i : TypeInfo) (z : Value) (size bytes : Nat) (ht : P.underlying t = some (.slice e)) (hi : P.info? e = some i) (hz : i.zero = some z)
    (hsize : i.size = size) (hby : i.bytes = bytes) (hzs : z.cells.size = size) (hsz : 0 < size)
    (v : Value) (n : Nat) (xs : List Value) (hs : a.eval s = v) (hown : w.ownsRow base e size v n xs)
    (A : Option Addr) (m c : Nat) (news : List Value) (hx : a.eval x = .slice A m c) (hl : news.length = m * size) (hsrc : ∀ ad, A = some ad → ∀ j u, news[j]? = some u → w.cell? (ad.add j) = some u) (hnil : A = none → m = 0) (h1 : ∀ u ∈ news, u.oneCell' = true)
    (h63 : n + m ≤ maxLen) (hbytes : (n + m) * bytes ≤ 140737488355328) (hbase : base ≤ w.heap.size) (q : Nat) (hq : n + m = q)
    (hK : ∀ A' c' w', w'.ownsRow base e size (.slice A' q c') q (xs ++ news) → w.grownBy w' v.ownBlock → ((Value.slice A' q c').ownBlock = v.ownBlock ∨ (Value.slice A' q c').ownBlock = some w.heap.size) → wpList P ops Q rest (a.put o.dst (.slice A' q c')) w') : wpList P ops Q (o :: rest) a w := by
  subst hq
  refine wpList_plain hgd fun K hK2 => ?_
  obtain ⟨v', w', hrun, r1, r2, r3⟩ := run_append_src (P := P) w base t o.type e i z size bytes ht hi hz hsize hby hzs hsz v n xs hown A m c news hl hsrc hnil h1 h63 hbytes hbase
  obtain ⟨A', c', rfl⟩ := own_form r1
  unfold Oper.wp
  simp [execOp, hop, resolve, invoke, builtin, hs, hx, hrun, Result.andThen]
  exact hK2 _ _ (hK A' c' w' r1 r2 r3)
end

/-- the cells of a whole row as a source -/
theorem row_src {e : TypeId} {B size : Nat} {w : World} {A : Option Addr} {n c : Nat} {xs : List Value} (h : w.ownsRow B e size (.slice A n c) n xs) : (∀ ad, A = some ad → ∀ j u, xs[j]? = some u → w.cell? (ad.add j) = some u) ∧ (A = none → n = 0) := by
  rcases h.2 with ⟨q, h0⟩ | ⟨k, cap, cur, q, _⟩
  · obtain ⟨rfl, _, _⟩ := Value.slice.inj q
    exact ⟨fun ad e => (by cases e), fun _ => h0⟩
  · obtain ⟨rfl, _, _⟩ := Value.slice.inj q
    refine ⟨fun ad e j u hu => ?_, fun e => by cases e⟩
    cases e
    have hlt := (List.getElem?_eq_some_iff.1 hu).1
    rw [h.1] at hlt
    rw [add_plain', Nat.zero_add, h.cellAt j hlt]
    exact hu
set_option maxRecDepth 100000 in
set_option maxHeartbeats 1000000 in
theorem clone_any (w : World) (A : Option Addr) (c : Nat) (V : List Run) (hrow : w.ownsRow 0 79 33 (.slice A V.length c) V.length (rowsV V)) (hne : V ≠ []) (hok : OkV V) (hl : V.length ≤ 1000000) :
    Calls Try.prog 27 #[.slice A V.length c] w fun e w' => ∃ gb cap, e = .returned (.slice (some ⟨gb, 0, none⟩) V.length cap) ∧ w'.ownsRow 0 79 33 (.slice (some ⟨gb, 0, none⟩) V.length cap) V.length (rowsV V) ∧ w.heap.size ≤ gb ∧ Below w.heap.size w w' := by
  obtain ⟨i0, hi0, hz0, hz1, hz2⟩ := info_parts info83
  have hpos : 0 < V.length := List.length_pos_iff.2 hne
  obtain ⟨b, cap0, he, _, hbl⟩ := hrow.form hpos
  obtain ⟨rfl, _, rfl⟩ := Value.slice.inj he
  have Hsrc : Hid (∀ ad, some (⟨b, 0, none⟩ : Addr) = some ad → ∀ j u, (rowsV V)[j]? = some u → (w.alloc (.cells #[] 79)).cell? (ad.add j) = some u) := fun ad e j u hu => by
    cases e
    have h1 := (row_src hrow).1 _ rfl j u hu
    rw [add_plain', ] at h1 ⊢
    exact (World.cell?_of_block ((below_alloc1 w _).block b hbl)).trans h1
  have Hlen := Lib.hid (length_rowsV hok)
  have Hone := Lib.hid (rowsV_one V)
  have Hown : Hid ((w.alloc (.cells #[] 79)).ownsRow w.heap.size 79 33 (.slice (some ⟨w.heap.size, 0, none⟩) 0 0) 0 []) := World.ownsRow_made w #[] 0 (Nat.le_refl _) (by simp) (by simp)
  have heq : ∀ W : World, (binOp .eql 76 (.slice (some ⟨b, 0, none⟩) V.length c) (.slice none 0 0)).run Try.prog W = .ok (.bool false) W := fun W => by
    simp [binOp, run_equal_slice_nil W 76 79 _ _ _ Try.underlying76]
  clear he hrow hok hne
  go_enter Try.func27, Try.ntmps27
  go_wp2_with (refine wpList_append_src rfl (.tmp 5) (.tmp 6) 76 rfl w.heap.size 79 i0 _ 33 40 Try.underlying76 hi0 hz0 hz1 hz2 (by decide) (by decide) _ 0 [] rfl Hown.out (some ⟨b, 0, none⟩) V.length c (rowsV V) rfl Hlen.out Hsrc.out (fun e => by cases e) Hone.out (by unfold maxLen; omega) (by omega) (by simp) V.length (by omega) ?_; intro A' c' w' ho hg hor)
  have hB := (below_alloc1 w (.cells #[] 79)).grown hg (by simp) (fun j e => by cases e; exact Nat.le_refl _)
  have HO := Lib.hid ho
  clear ho hg hor
  go_ret
  obtain ⟨gb, cap', he, hge, _⟩ := HO.out.form hpos
  obtain ⟨rfl, _, rfl⟩ := Value.slice.inj he
  exact ⟨gb, _, rfl, by simpa using row_zero HO.out, hge, hB⟩
end Go.Proofs.Ytkldiofleepkfaa

/- The contract of 'Fork' of the program's disk. -/
set_option linter.unusedVariables false
set_option linter.unusedSimpArgs false
namespace Go.Proofs.Ytkldiofleepkfaa
open Go.RowKit

section
variable {w w' : World} {g n c mb k : Nat} {S : Nat → Bk} {L : List Int} {B : List Bool} {D : DataW Value} {V : Nat → List Run} {A : Nat → Option Addr} {C : Nat → Nat}
/-- a block of which nothing waited gets rows -/
theorem CodeAt.ins (h : CodeAt w g n S c L B mb k D V A C) {i : Nat} (hi : i < n) {k' c' : Nat} {D' : DataW Value} {a' : Option Addr} {v' : List Run}
    (hk : Kept w w' (fun b => b = mb)) (hm : w'.ownsMap Try.prog 3 RV mb k' D') (hk' : k' ≤ c)
    (hD1 : ∀ z, D'.atKey (.int .i64 (i : Int)) z = .held (.slice a' v'.length c'))
    (hD2 : ∀ l, l ≠ .int .i64 (i : Int) → Maps.has D' l = Maps.has D l ∧ ∀ z, D'.atKey l z = D.atKey l z)
    (hrow : w'.ownsRow 0 79 33 (.slice a' v'.length c') v'.length (rowsV v')) (ha : ∀ b, own a' = some b → w.heap.size ≤ b) (hv : v' ≠ []) (hok : OkV v') (hfew : (unrun v').length ≤ c) :
    CodeAt w' g n (upd S i ⟨(S i).s, unrun v', (S i).b⟩) c L B mb k' D' (fun j => if j = i then v' else V j) (fun j => if j = i then a' else A j) (fun j => if j = i then c' else C j) ∧
      ∀ b, foot g n mb (fun j => if j = i then a' else A j) b → foot g n mb A b ∨ w.heap.size ≤ b := by
  have hapart : ∀ j, j < n → ∀ b, own (A j) = some b → own a' ≠ some b := by
    intro j hj b hb e
    have h1 := ha b e
    have h2 := ((h.row j hj).lt b (by rw [own_eq]; exact hb)).2
    omega
  refine ⟨⟨h.diskw hk h.gm, hm, hk', ?_, ?_, ?_, ?_, ?_, ?_, ?_, ?_, ?_, ?_⟩, ?_⟩
  · intro x hx
    by_cases e : (Lit.int .i64 x) = .int .i64 (i : Int)
    · injection e with _ e
      exact ⟨i, e, hi⟩
    · rw [(hD2 _ e).1] at hx
      exact h.keys x hx
  · intro j hj hne z
    by_cases e : j = i
    · subst e; simpa using hD1 z
    · simp only [if_neg e] at hne ⊢
      rw [(hD2 _ (key_ne e)).2]
      exact h.here j hj hne z
  · intro j hj he
    by_cases e : j = i
    · subst e; simp only [if_true] at he; exact absurd he hv
    · simp only [if_neg e] at he ⊢
      rw [(hD2 _ (key_ne e)).1]
      exact h.gone j hj he
  · intro j hj
    by_cases e : j = i
    · subst e; simpa using hrow
    · simp only [if_neg e]
      refine hk.row (h.row j hj) fun b hb q => ?_
      rw [own_eq] at hb
      exact h.row_m hj hb q
  · intro j hj
    by_cases e : j = i
    · subst e; simpa using hok
    · simpa only [if_neg e] using h.ok j hj
  · intro j hj
    by_cases e : j = i
    · subst e; rw [upd_same]; exact h.sec j hj
    · rw [upd_other _ _ e]; exact h.sec j hj
  · intro j hj
    by_cases e : j = i
    · subst e; rw [upd_same]; exact h.bad j hj
    · rw [upd_other _ _ e]; exact h.bad j hj
  · intro j hj
    by_cases e : j = i
    · subst e; rw [upd_same]; simp
    · rw [upd_other _ _ e]; simpa only [if_neg e] using h.ver j hj
  · intro j hj
    by_cases e : j = i
    · subst e; rw [upd_same]; exact hfew
    · rw [upd_other _ _ e]; exact h.few j hj
  · intro x y hx hy hxy b hb
    by_cases e1 : x = i
    · subst e1
      have e2 : ¬ y = x := fun q => hxy q.symm
      simp only [if_true, if_neg e2] at hb ⊢
      exact fun q => hapart y hy b q hb
    · by_cases e2 : y = i
      · subst e2
        simp only [if_true, if_neg e1] at hb ⊢
        exact hapart x hx b hb
      · simp only [if_neg e1, if_neg e2] at hb ⊢
        exact h.apart x y hx hy hxy b hb
  · rintro b (q | q | ⟨j, hj, q⟩)
    · exact .inl (.inl q)
    · exact .inl (.inr (.inl q))
    · by_cases e : j = i
      · subst e; simp only [if_true] at q; exact .inr (ha b q)
      · simp only [if_neg e] at q
        exact .inl (.inr (.inr ⟨j, hj, q⟩))
end
/-- the blocks of a copy under way: what is left has no versions yet -/
def halfS (S : Nat → Bk) (left : Lit → Bool) : Nat → Bk := fun j => ⟨(S j).s, if left (.int .i64 (j : Int)) = true then [] else (S j).v, (S j).b⟩
/-- a copy under way -/
def FkS (w wr : World) (h n c : Nat) (S : Nat → Bk) (L : List Int) (B : List Bool) (mb mb2 k r : Nat) (D : DataW Value) (cnt : Nat) (left : Lit → Bool) : Prop :=
  ∃ k2 D2 V2 A2 C2, wr.ranges Try.prog 3 RV mb r k D left cnt ∧ CodeAt wr h n (halfS S left) c L B mb2 k2 D2 V2 A2 C2 ∧ Below w.heap.size w wr ∧ (∀ b, foot h n mb2 A2 b → w.heap.size ≤ b) ∧ k2 + cnt ≤ Maps.size D ∧ ∀ i, left (.int .i64 i) = true → Maps.has D (.int .i64 i) = true
theorem halfS_next (S : Nat → Bk) (left : Lit → Bool) (j : Nat) : halfS S (fun z => left z && !z.sameKey (.int .i64 (j : Int))) = upd (halfS S left) j ⟨(halfS S left j).s, (S j).v, (halfS S left j).b⟩ := by
  funext i
  by_cases e : i = j
  · subst e
    rw [upd_same]
    simp [halfS, Lit.sameKey]
  · rw [upd_other _ _ e]
    have : (Lit.int .i64 (i : Int)).sameKey (.int .i64 (j : Int)) = false := Maps.sameKey_ne (by intro h; injection h with _ h; omega)
    simp [halfS, this]
theorem below_grown {B : Nat} {w w' : World} (h : Below w.heap.size w w') : w.grownBy w' none := ⟨h.os, h.tape, h.output, h.size, fun k hk _ => h.block k hk⟩
set_option maxRecDepth 100000 in
set_option linter.unusedSimpArgs false in
set_option maxHeartbeats 1000000 in
theorem cfork {w : World} {g n c : Nat} {S : Nat → Bk} {F : Nat → Prop} (h : Code w g n S c F) (hc : c < 100000) :
    Calls Try.prog 11 #[.pointer (some ⟨g, 0, none⟩)] w fun e w' => ∃ h F', e = .returned (.pointer (some ⟨h, 0, none⟩)) ∧ Code w' h n S c F' ∧ (∀ b, F' b → w.heap.size ≤ b) ∧ Below w.heap.size w w' := by
  obtain ⟨L, B, mb, k, D, V, A, C, hA, rfl⟩ := h
  have hcm := hA.disk.cmap
  have hgl := hA.glt
  have hml := hA.map.lt
  have hll := length_heldL n L B hA.disk.lenL hA.disk.lenB
  have HA := Lib.hid hA
  have hR : Hid (w.rangeAt g 0 (heldL n L B)) := fun j u hj => by
    rw [Nat.zero_add, hA.disk.blk.cell, diskL, List.getElem?_append_left (List.getElem?_eq_some_iff.1 hj).1]
    exact hj
  have hsz77 : Hid ((Try.prog.info? 51).map (·.size) = some (heldL n L B).length) := by unfold Hid; rw [hll]; exact size77
  have b2 := Lib.hid (built80 (heldL n L B).toArray (by simpa using hll) (some w.heap.size))
  rw [push_disk] at b2
  have hmm := @run_makeMap Try.prog
  obtain ⟨w2, hw2⟩ : ∃ w2, w2 = (w.alloc (.map #[] 0)).alloc (.cells (diskL n L B w.heap.size).toArray 54) := ⟨_, rfl⟩
  have B2 : Hid (Below w.heap.size w w2) := by rw [hw2]; exact below_alloc2 w _ _
  have s2 : Hid (w2.heap.size = w.heap.size + 2) := by unfold Hid; rw [hw2, size_alloc1, size_alloc1]
  have C2 : Hid (CodeAt w2 (w.heap.size + 1) n (halfS S (Maps.has D)) c L B w.heap.size 0 (.map []) (fun _ => []) (fun _ => none) (fun _ => 0)) := by
    refine ⟨⟨?_, HA.out.disk.lo, HA.out.disk.hi, HA.out.disk.lenL, HA.out.disk.lenB, HA.out.disk.allL⟩, ?_, Nat.zero_le _, ?_, ?_, ?_, ?_, ?_, ?_, ?_, ?_, ?_, ?_⟩
    · have := heap_alloc_new (w.alloc (.map #[] 0)) (.cells (diskL n L B w.heap.size).toArray 54)
      unfold BlkIs
      rw [hw2]
      simpa using this
    · rw [hw2]; exact (World.ownsMap_made w Try.prog 3 RV).alloc _
    · intro i hi; cases hi
    · intro j _ hne; exact absurd rfl hne
    · intro j _ _; exact ⟨rfl, rfl, rfl⟩
    · intro j _; exact World.ownsRow_nil _ _ _ _
    · intro j _ x hx; cases hx
    · intro j hj; exact HA.out.sec j hj
    · intro j hj; exact HA.out.bad j hj
    · intro j hj
      show ([] : List (List Int)) = _
      unfold halfS
      rw [HA.out.has_eq hj, ← HA.out.ver j hj]
      cases V j <;> simp [unrun]
    · intro j hj
      have := HA.out.few j hj
      show (halfS S (Maps.has D) j).v.length ≤ c
      unfold halfS
      by_cases e : Maps.has D (.int .i64 (j : Int)) = true
      · simp [e]
      · simpa [e] using this
    · intro i j _ _ _ b hb; cases hb
  have hfoot2 : Hid (∀ b, foot (w.heap.size + 1) n w.heap.size (fun _ => none) b → w.heap.size ≤ b) := by
    rintro b (q | q | ⟨j, _, q⟩)
    · omega
    · omega
    · cases q
  have M2 : Hid (w2.ownsMap Try.prog 3 RV mb k D) := (Kept.fresh (S := fun _ => False) B2.out).map HA.out.map (fun x => x)
  have cm2 : Hid (w2.cell? ⟨g, 3169, none⟩ = some (.map (some mb))) := (World.cell?_of_block (B2.out.block g hgl)).trans hcm
  obtain ⟨H0, hH0⟩ : ∃ H0, H0 = heldL n L B := ⟨_, rfl⟩
  rw [← hH0] at hR hsz77 b2
  obtain ⟨D0, hD0⟩ : ∃ D0, D0 = (diskL n L B w.heap.size).toArray := ⟨_, rfl⟩
  rw [← hD0] at b2 hw2
  have Hw2 := Lib.hid hw2
  clear hH0 hD0 hA hll hw2
  go_enter Try.func11, Try.ntmps11
  go_wp2_with (first
    | (refine wpList_load_mid rfl 51 (.tmp 10) rfl g 0 rfl H0 _ hR.out Try.underlying51 rfl hsz77.out ?_)
    | (refine wpList_build_eq rfl 54 [(0, .tmp 11), (1, .tmp 12)] rfl [(0, .agg H0.toArray), (1, .map (some w.heap.size))] rfl D0 b2.out ?_)
    | (at_range
       rw [← Hw2.out]
       have cm3 := cm2.out
       refine wpList_range_own _ rfl _ 52 rfl 3 76 law3 Try.underlying52 _ mb k D rfl M2.out ?_; intro w0 hrg0 hg0 hs0))
  go_frame
  have HS : Hid (FkS w w0 (w.heap.size + 1) n c S L B mb w.heap.size k w2.heap.size D (Maps.size D) (Maps.has D)) :=
    ⟨0, .map [], fun _ => [], fun _ => none, fun _ => 0, hrg0, (C2.out.keep (G := fun _ => False) (Kept.grown hg0 (fun _ e => by cases e)) (fun _ _ x => x)), ⟨hg0.os.trans B2.out.os, hg0.tape.trans B2.out.tape, hg0.output.trans B2.out.output, Nat.le_trans B2.out.size hg0.size, fun b hb => (hg0.block b (by have := s2.out; omega) (by simp)).trans (B2.out.block b hb)⟩, hfoot2.out, by omega, fun i hi => hi⟩
  have hml' := Lib.hid hml
  have hgl' := Lib.hid hgl
  clear hrg0 hg0 hs0 hcm hgl hml cm3
  go_loopw [4, 5] (fun _ _ wr => ∃ (left : Lit → Bool) (cnt : Nat), FkS w wr (w.heap.size + 1) n c S L B mb w.heap.size k w2.heap.size D cnt left) (fun _ _ wr => wr.rangeLeft mb w2.heap.size)
  case atStart => exact ⟨_, _, HS.out⟩
  case round =>
    obtain ⟨left, cnt, hF⟩ := hrel
    have HF := Lib.hid hF
    obtain ⟨k2, D2, V2, A2, C2', hrg, hA2, hB, hft, hcnt, hlh⟩ := hF
    rename World => wr
    have AX : Hid (∀ (x : Int) (v : Value), left (.int .i64 x) = true → (∀ zd, D.atKey (.int .i64 x) zd = .held v) → ∃ j gv q cap, x = ((j : Nat) : Int) ∧ v = .slice (some ⟨gv, 0, none⟩) (q + 1) cap ∧
        (j < n ∧ A j = some ⟨gv, 0, none⟩ ∧ (V j).length = q + 1 ∧ C j = cap)) := by
      intro x v hl hv
      have hD := hlh x hl
      obtain ⟨j, rfl, hj⟩ := HA.out.keys x hD
      rw [HA.out.has_eq hj] at hD
      have he : V j ≠ [] := by intro e; rw [e] at hD; simp at hD
      obtain ⟨gv, q, hAj, hq, _⟩ := HA.out.now hj he
      have e := hv (.held (.bool false))
      rw [HA.out.here j hj he, hAj, hq] at e
      injection e with e
      exact ⟨j, gv, q, C j, rfl, e.symm, hj, hAj, hq, rfl⟩
    have Hr := Lib.hid hrg
    have HA2 := Lib.hid hA2
    have HB := Lib.hid hB
    have Hft := Lib.hid hft
    have Hcnt := Lib.hid hcnt
    have Hlh := Lib.hid hlh
    clear hrg hA2 hB hft hcnt hlh
    go_wp2_with (at_next; refine wpList_next_waits rfl _ rfl 3 law3 Try.underlying3 mb w2.heap.size k D left cnt rfl Hr.out _ AX.out ?_ ?_)
    · intro hl0
      go_wp2
      go_ret
      refine ⟨_, _, rfl, ⟨L, B, w.heap.size, k2, D2, V2, A2, C2', HA2.out.congr (fun j _ => ?_), rfl⟩, Hft.out, HB.out⟩
      unfold halfS
      rw [hl0]
      rfl
    · intro j gv q cap w1 cnt1 hj hAj hq hCj hlx hrg1 hlt hg1 hen
      have hVe : V j ≠ [] := by intro e; rw [e] at hq; cases hq
      have hwr : w.heap.size ≤ wr.heap.size := HB.out.size
      have hwr2 : w2.heap.size < wr.heap.size := Hr.out.lt
      have hj96 : j < 96 := by have := HA.out.n96; omega
      have Hkey := Lib.hid (key3 hj96)
      have hm2r : w.heap.size ≠ w2.heap.size := by have := s2.out; omega
      have hB1 : Below w.heap.size w w1 := ⟨hg1.os.trans HB.out.os, hg1.tape.trans HB.out.tape, hg1.output.trans HB.out.output, Nat.le_trans hwr hg1.size, fun b hb => (hg1.block b (by omega) (by have := s2.out; simp; omega)).trans (HB.out.block b hb)⟩
      have hA1 : CodeAt w1 (w.heap.size + 1) n (halfS S left) c L B w.heap.size k2 D2 V2 A2 C2' := HA2.out.keep (G := fun b => b = w2.heap.size) (Kept.grown hg1 (fun b e => by cases e; exact .inl rfl)) (fun b hb e => by
        subst e
        rcases hb with e | e | ⟨i, hi, e⟩
        · have := s2.out; omega
        · exact hm2r e.symm
        · obtain ⟨cs, hcs⟩ := HA2.out.row_typed hi e
          obtain ⟨_, _, _, _, _, _, _, _, _, hit, _⟩ := Hr.out
          rw [hcs] at hit
          simp at hit)
      have B1 := Lib.hid hB1
      have HA1 := Lib.hid hA1
      have Hrg1 := Lib.hid hrg1
      have hV2 : V2 j = [] := (unrun_nil (hA1.ok j hj)).1 (by rw [hA1.ver j hj]; unfold halfS; simp [hlx])
      have hrowj := (Kept.fresh (S := fun _ => False) hB1).row (HA.out.row j hj) (fun _ _ x => x)
      have hlen := HA.out.len_le hj
      have CLN : Hid (∀ W, Below w1.heap.size w1 W → Calls Try.prog 27 #[.slice (some ⟨gv, 0, none⟩) (q + 1) cap] W fun e w' => ∃ gb cap5, e = .returned (.slice (some ⟨gb, 0, none⟩) (q + 1) cap5) ∧ w'.ownsRow 0 79 33 (.slice (some ⟨gb, 0, none⟩) (q + 1) cap5) (q + 1) (rowsV (V j)) ∧ W.heap.size ≤ gb ∧ Below W.heap.size W w') := fun W hW => by
        have := clone_any W (A j) (C j) (V j) ((Kept.fresh (S := fun _ => False) hW).row hrowj (fun _ _ x => x)) hVe (HA.out.ok j hj) (by omega)
        rw [hAj, hCj, hq] at this
        exact this
      have c1 : w1.cell? ⟨w.heap.size + 1, 3169, none⟩ = some (.map (some w.heap.size)) := hA1.disk.cmap
      have B1d : Hid (Below w1.heap.size w1 w1.drew) := (Below.refl _ _).drew
      have hsz := HA.out.map.size_le
      have hkc := HA.out.kc
      have CLO : Hid (∀ w5 gb cap5, Below w1.drew.heap.size w1.drew w5 → w5.ownsRow 0 79 33 (.slice (some ⟨gb, 0, none⟩) (q + 1) cap5) (q + 1) (rowsV (V j)) → w1.drew.heap.size ≤ gb →
          w5.cell? ⟨w.heap.size + 1, 3169, none⟩ = some (.map (some w.heap.size)) ∧ w5.ownsMap Try.prog 3 RV w.heap.size k2 D2 ∧
          ∀ w6, w6.ownsMap Try.prog 3 RV w.heap.size (k2 + 1) (D2.put (.int .i64 (j : Int)) (.held (.slice (some ⟨gb, 0, none⟩) (q + 1) cap5))) → w5.grownBy w6 (some w.heap.size) → w6.cell? ⟨w.heap.size + 1, 3169, none⟩ = some (.map (some w.heap.size)) ∧
            w6.ranges Try.prog 3 RV mb w2.heap.size k D (fun z => left z && !z.sameKey (.int .i64 (j : Int))) cnt1 ∧ FkS w w6 (w.heap.size + 1) n c S L B mb w.heap.size k w2.heap.size D cnt1 (fun z => left z && !z.sameKey (.int .i64 (j : Int)))) := by
        intro w5 gb cap5 hB5' hr5 hgb5
        have hB5 : Below w1.heap.size w1 w5 := B1d.out.trans hB5'
        have hA5 := HA1.out.fresh hB5
        refine ⟨hA5.disk.cmap, hA5.map, fun w6 hm6 hg6 => ?_⟩
        have hgbw : w1.heap.size ≤ gb := hgb5
        have hr5' : w5.ownsRow 0 79 33 (.slice (some ⟨gb, 0, none⟩) (V j).length cap5) (V j).length (rowsV (V j)) := by rw [hq]; exact hr5
        have hgbl := (hr5.lt gb rfl).2
        have hr6 := hr5'.kept hg6 (.inr (by have := hB1.size; have := hA1.map.lt; simp [Value.ownBlock]; omega))
        have hkey : WideAt.IsKeyLit (.int .i64 (j : Int)) := trivial
        -- the copy lies behind the world ahead of the call
        have hA1' : CodeAt w1 (w.heap.size + 1) n (halfS S left) c L B w.heap.size k2 D2 V2 A2 C2' := HA1.out
        have hk16 : Kept w1 w6 (fun b => b = w.heap.size) := (Kept.fresh hB5).trans (Kept.grown (S := fun b => b = w.heap.size) hg6 (fun b e => by cases e; exact .inl rfl)) (fun _ h => .inl h)
        have hins := hA1'.ins hj (w' := w6) (k' := k2 + 1) (c' := cap5) (a' := some ⟨gb, 0, none⟩) (v' := V j) hk16 hm6 (by have := Hcnt.out; omega)
          (fun z => by rw [hq]; exact Maps.atKey_put_same hA5.map.isMap hkey _ z) (fun l hl => ⟨Maps.has_put_other hl _, fun z => Maps.atKey_put_other hl _ z⟩) hr6 (fun b e => by simp [own] at e; omega) hVe (HA.out.ok j hj) (by rw [HA.out.ver j hj]; exact HA.out.few j hj)
        rw [HA.out.ver j hj, ← halfS_next S left j] at hins
        have hrg6 : w6.ranges Try.prog 3 RV mb w2.heap.size k D (fun z => left z && !z.sameKey (.int .i64 (j : Int))) cnt1 :=
          (Hrg1.out.kept (below_grown (B := 0) hB5) (by simp) (by simp)).kept hg6 (by have := hml'.out; simp; omega) (by simpa using Ne.symm hm2r)
        refine ⟨(by rw [hk16.cell (a := ⟨w.heap.size + 1, 3169, none⟩) (by have := hA1'.glt; exact this) (by show ¬ (w.heap.size + 1 = w.heap.size); omega)]; exact hA1'.disk.cmap), hrg6, _, _, _, _, _, hrg6, hins.1, ?_, ?_, ?_, ?_⟩
        · exact hB1.trans (hk16.below (fun b e => by omega) hB1.size)
        · intro b hb
          rcases hins.2 b hb with q | q
          · exact Hft.out b q
          · have := hB1.size; omega
        · have := Hcnt.out; omega
        · intro i hi
          simp only [Bool.and_eq_true] at hi
          exact Hlh.out i hi.1
      have hk2m : k2 < maxLen := by have := Hcnt.out; unfold maxLen; omega
      have Hk2 := Lib.hid hk2m
      have X7 : Hid (w1.drew.cell? ⟨w.heap.size + 1, 3169, none⟩ = some (.map (some w.heap.size))) := c1
      have Hlt := Lib.hid hlt
      clear hrg1 hlt hg1 hVe hAj hq hCj hB1 hA1 hV2 hrowj hlen hsz hkc hk2m c1 hwr hwr2
      go_wp2_with fail
      refine wp_region_held_drew (S := (fun W => W.cell? ⟨w.heap.size + 1, 3169, none⟩ = some (.map (some w.heap.size)))) (by kernel_rfl) (X7.out) (fun hHeld => ?_)
      refine takeH (i := 0) (some 25) (v := ?_) rfl rfl (by kernel_rfl) (by kernel_rfl) (by kernel_rfl) (fun _ _ _ h => h) (by rfl) ?_ (by assumption) ?_
      rotate_left
      · (intro w hSw; (try dsimp only at hSw); go_simp; try with_reducible rfl)
      simp only [Act.put, List.setIfInBounds_toArray, List.set_cons_zero, List.set_cons_succ]
      refine takeH (i := 1) (some 26) (v := ?_) rfl rfl (by kernel_rfl) (by kernel_rfl) (by kernel_rfl) (fun _ _ _ h => h) (by rfl) ?_ (by assumption) ?_
      rotate_left
      · (intro w hSw; (try dsimp only at hSw); go_simp; try with_reducible rfl)
      simp only [Act.put, List.setIfInBounds_toArray, List.set_cons_zero, List.set_cons_succ]
      refine takeH (i := 2) (some 27) (v := ?_) rfl rfl (by kernel_rfl) (by kernel_rfl) (by kernel_rfl) (fun _ _ _ h => h) (by rfl) ?_ (by assumption) ?_
      rotate_left
      · (intro w hSw; (try dsimp only at hSw); go_simp; try with_reducible rfl)
      simp only [Act.put, List.setIfInBounds_toArray, List.set_cons_zero, List.set_cons_succ]
      refine takeH (i := 3) (some 28) (v := ?_) rfl rfl (by kernel_rfl) (by kernel_rfl) (by kernel_rfl) (fun _ _ _ h => h) (by rfl) ?_ (by assumption) ?_
      rotate_left
      · (intro w hSw; (try dsimp only at hSw); go_simp; try with_reducible rfl)
      simp only [Act.put, List.setIfInBounds_toArray, List.set_cons_zero, List.set_cons_succ]
      refine takeH (i := 4) (some 29) (v := ?_) rfl rfl (by kernel_rfl) (by kernel_rfl) (by kernel_rfl) (fun _ _ _ h => h) (by rfl) ?_ (by assumption) ?_
      rotate_left
      · (intro w hSw; (try dsimp only at hSw); go_simp; try with_reducible rfl)
      simp only [Act.put, List.setIfInBounds_toArray, List.set_cons_zero, List.set_cons_succ]
      refine takeH (i := 5) (some 30) (v := ?_) rfl rfl (by kernel_rfl) (by kernel_rfl) (by kernel_rfl) (fun _ _ _ h => h) (by rfl) ?_ (by assumption) ?_
      rotate_left
      · (intro w hSw; (try dsimp only at hSw); go_simp; try with_reducible rfl)
      simp only [Act.put, List.setIfInBounds_toArray, List.set_cons_zero, List.set_cons_succ]
      refine wpAnyH_ready (rs := [6]) (by kernel_rfl) (by simp) ?_
      refine AllReadyH.cons rfl (fun K hK => ?_) AllReadyH.nil
      go_simp
      refine (CLN.out _ B1d.out).mono ?_
      rintro e w5 ⟨gb, cap5, rfl, hr5, hgb5, hB5⟩
      have Z := Lib.hid (CLO.out w5 gb cap5 hB5 hr5 hgb5)
      clear hr5 hgb5 hB5
      refine hK _ _ (Z.out.1) (fun hHeld => ?_)
      clear hK K
      try simp only [Act.put, List.setIfInBounds_toArray, List.set_cons_zero, List.set_cons_succ]
      refine wpAnyH_ready (rs := [7]) (by kernel_rfl) (by simp) ?_
      refine AllReadyH.cons rfl (fun K hK => ?_) AllReadyH.nil
      refine step_of rfl (wp_update_held (.tmp 28) (.tmp 29) (.tmp 31) 52 rfl 3 76 law3 Try.underlying52 w.heap.size k2 D2 rfl Z.out.2.1 Hk2.out _ _ _ rfl rfl Hkey.out ?_)
      intro w6 hm6 hg6
      have U := Lib.hid (Z.out.2.2 w6 hm6 hg6)
      clear hm6 hg6
      refine hK _ _ (U.out.1) (fun hHeld => ?_)
      clear hK K
      try simp only [Act.put, List.setIfInBounds_toArray, List.set_cons_zero, List.set_cons_succ]
      refine wpAnyH_done (by kernel_rfl) ?_ _
      have hr6 := Lib.hid U.out.2.1
      have hf6 := Lib.hid U.out.2.2
      go_wp2_with fail
      go_roundw
      case rel => exact ⟨_, cnt1, hf6.out⟩
      case measure => have := Hlt.out; rw [hr6.out.left_eq, Hr.out.left_eq]; omega
end Go.Proofs.Ytkldiofleepkfaa

/- Whether patches are of one block, whether they overlap. -/
set_option linter.unusedVariables false
set_option linter.unusedSimpArgs false
namespace Go.Proofs.Ytkldiofleepkfaa
open Go.RowKit

def Pt.both (p q : Pt) : Bool := p.right && q.right && (p.b == q.b)
set_option maxHeartbeats 400000 in
theorem ofOne_any (p q : Pt) (w : World) (hp : p.ok) (hq : q.ok) :
    Calls Try.prog 64 #[p.v, q.v] w fun e w' => e = .returned (.bool (p.both q)) ∧ Below w.heap.size w w' := by
  unfold Pt.both
  have R1 := Lib.hid (fun w => right_any p w hp)
  have R2 := Lib.hid (fun w => right_any q w hq)
  have T := Lib.hid (fun w1 hB => @Boxed.two w w1 p q hB)
  cases h1 : p.right
  · rw [h1] at R1
    obtain ⟨b, o, s⟩ := p
    obtain ⟨b', o', s'⟩ := q
    unfold Pt.v at *
    simp only at *
    go_enter Try.func64, Try.ntmps64
    go_wp2_with (go_at_call 35; refine (R1.out _).mono ?_; rintro e w1 ⟨rfl, hB1⟩)
    go_ret
    exact ⟨rfl, (T.out _ (by simpa [Pt.cs] using hB1)).1⟩
  · cases h2 : q.right
    · rw [h1] at R1
      rw [h2] at R2
      clear h1 h2
      obtain ⟨b, o, s⟩ := p
      obtain ⟨b', o', s'⟩ := q
      unfold Pt.v at *
      simp only at *
      go_enter Try.func64, Try.ntmps64
      go_wp2_with fail
      refine (R1.out _).mono ?_
      rintro e w1 ⟨rfl, hB1⟩
      have t1 := T.out _ (by simpa [Pt.cs] using hB1)
      obtain ⟨_, b1, b2⟩ := id t1
      obtain ⟨c10, c11, c12⟩ := b1.cells
      obtain ⟨c20, c21, c22⟩ := b2.cells
      have T1 := Lib.hid t1
      simp only at *
      clear hB1 t1 b1 b2
      go_wp2_with fail
      refine (R2.out _).mono ?_
      rintro e w2 ⟨rfl, hB2⟩
      go_wp2
      go_ret
      exact ⟨rfl, (Boxed.more T1.out hB2).1⟩
    · rw [h1] at R1
      rw [h2] at R2
      clear h1 h2
      obtain ⟨b, o, s⟩ := p
      obtain ⟨b', o', s'⟩ := q
      unfold Pt.v at *
      simp only at *
      go_enter Try.func64, Try.ntmps64
      go_wp2_with fail
      refine (R1.out _).mono ?_
      rintro e w1 ⟨rfl, hB1⟩
      have t1 := T.out _ (by simpa [Pt.cs] using hB1)
      obtain ⟨_, b1, b2⟩ := id t1
      obtain ⟨c10, c11, c12⟩ := b1.cells
      obtain ⟨c20, c21, c22⟩ := b2.cells
      have T1 := Lib.hid t1
      simp only at *
      clear hB1 t1 b1 b2
      go_wp2_with fail
      refine (R2.out _).mono ?_
      rintro e w2 ⟨rfl, hB2⟩
      have t2 := Boxed.more T1.out hB2
      obtain ⟨_, b1, b2⟩ := id t2
      obtain ⟨d10, d11, d12⟩ := b1.cells
      obtain ⟨d20, d21, d22⟩ := b2.cells
      have T2 := Lib.hid t2
      simp only at *
      clear hB2 t2 b1 b2 c10 c11 c12 c20 c21 c22
      go_wp2
      go_ret
      exact ⟨rfl, T2.out.1⟩
section
variable {P : Program} {ops : Array Oper} {Q : Exit → Act → World → Prop} {md : Region.Mode} {S : World → Prop}
end

/-- two patches laid at the call's head, and nothing older turned -/
def St2 (w : World) (p q : Pt) (W : World) : Prop := Below w.heap.size w W ∧ Boxed W w.heap.size p ∧ Boxed W (w.heap.size + 1) q
def Cells2 (w : World) (p q : Pt) (W : World) : Prop :=
  W.cell? ⟨w.heap.size, 0, none⟩ = some (.int .i64 p.b) ∧ W.cell? ⟨w.heap.size, 1, none⟩ = some (.int .i64 p.o) ∧ W.cell? ⟨w.heap.size, 2, none⟩ = some (.string p.s) ∧
  W.cell? ⟨w.heap.size + 1, 0, none⟩ = some (.int .i64 q.b) ∧ W.cell? ⟨w.heap.size + 1, 1, none⟩ = some (.int .i64 q.o) ∧ W.cell? ⟨w.heap.size + 1, 2, none⟩ = some (.string q.s)
theorem St2.cells {w W : World} {p q : Pt} (h : St2 w p q W) : Cells2 w p q W := by
  obtain ⟨a, b, c⟩ := h.2.1.cells
  obtain ⟨d, e, f⟩ := h.2.2.cells
  exact ⟨a, b, c, d, e, f⟩
theorem St2.next {w W W' : World} {p q : Pt} (h : St2 w p q W) (hB : Below W.heap.size W W') : St2 w p q W' := Boxed.more h hB
theorem St2.drew {w W : World} {p q : Pt} (h : St2 w p q W) : St2 w p q W.drew := ⟨h.1.drew, h.2.1, h.2.2⟩
theorem St2.start (w : World) (p q : Pt) : St2 w p q ((w.alloc (.cells p.cs.toArray 32)).alloc (.cells q.cs.toArray 32)) := ⟨below_alloc2 w _ _, boxed2 w p q⟩

def Pt.over (p q : Pt) : Bool := p.both q && decide (p.o < q.o + q.s.size) && decide (q.o < p.o + p.s.size)
theorem Pt.both_out {p q : Pt} (h : p.both q = true) : p.right = true ∧ q.right = true ∧ p.b = q.b := by
  simp only [Pt.both, Bool.and_eq_true, beq_iff_eq] at h
  exact ⟨h.1.1, h.1.2, h.2⟩

set_option maxRecDepth 100000 in
set_option linter.unusedSimpArgs false in
set_option maxHeartbeats 1000000 in
theorem overlap_any (p q : Pt) (w : World) (hp : p.ok) (hq : q.ok) :
    Calls Try.prog 54 #[p.v, q.v] w fun e w' => e = .returned (.bool (p.over q)) ∧ Below w.heap.size w w' := by
  have R := Lib.hid (fun w => ofOne_any p q w hp hq)
  have HS := Lib.hid (St2.start w p q).drew
  have HC := Lib.hid (fun W => @St2.cells w W p q)
  have HN := Lib.hid (fun W W' => @St2.next w W W' p q)
  unfold Pt.over
  cases hb : p.both q
  · rw [hb] at R
    clear hb
    obtain ⟨b, o, s⟩ := p
    obtain ⟨b', o', s'⟩ := q
    unfold Pt.v at *
    unfold Cells2 at HC
    simp only [Pt.cs] at *
    have X := Lib.hid (HC.out _ HS.out)
    go_enter Try.func54, Try.ntmps54
    go_wp2_with fail
    refine wp_region_held_drew (S := (fun W =>
      W.cell? ⟨w.heap.size, 0, none⟩ = some (.int .i64 b) ∧ W.cell? ⟨w.heap.size, 1, none⟩ = some (.int .i64 o) ∧ W.cell? ⟨w.heap.size, 2, none⟩ = some (.string s) ∧
      W.cell? ⟨w.heap.size + 1, 0, none⟩ = some (.int .i64 b') ∧ W.cell? ⟨w.heap.size + 1, 1, none⟩ = some (.int .i64 o') ∧ W.cell? ⟨w.heap.size + 1, 2, none⟩ = some (.string s'))) (by kernel_rfl) (X.out) (fun hHeld => ?_)
    refine takeH (i := 0) (some 5) (v := ?_) rfl rfl (by kernel_rfl) (by kernel_rfl) (by kernel_rfl) (fun _ _ _ h => h) (by rfl) ?_ (by assumption) ?_
    rotate_left
    · (intro w hSw; (try dsimp only at hSw); go_simp; try with_reducible rfl)
    simp only [Act.put, List.setIfInBounds_toArray, List.set_cons_zero, List.set_cons_succ]
    refine takeH (i := 1) (some 6) (v := ?_) rfl rfl (by kernel_rfl) (by kernel_rfl) (by kernel_rfl) (fun _ _ _ h => h) (by rfl) ?_ (by assumption) ?_
    rotate_left
    · (intro w hSw; (try dsimp only at hSw); go_simp; try with_reducible rfl)
    simp only [Act.put, List.setIfInBounds_toArray, List.set_cons_zero, List.set_cons_succ]
    refine wpAnyH_ready (rs := [2]) (by kernel_rfl) (by simp) ?_
    refine AllReadyH.cons rfl (fun K hK => ?_) AllReadyH.nil
    go_simp
    ((with_reducible refine (R.out _).mono ?_); rintro e w3 ⟨rfl, hB3⟩; replace HS := Lib.hid (HN.out _ _ HS.out hB3); replace X := Lib.hid (HC.out _ HS.out))
    refine hK _ _ (X.out) (fun hHeld => ?_)
    clear hK K
    try simp only [Act.put, List.setIfInBounds_toArray, List.set_cons_zero, List.set_cons_succ]
    refine takeH (i := 3) (some 8) (v := ?_) rfl rfl (by kernel_rfl) (by kernel_rfl) (by kernel_rfl) (fun _ _ _ h => h) (by rfl) ?_ (by assumption) ?_
    rotate_left
    · (intro w hSw; (try dsimp only at hSw); go_simp; try with_reducible rfl)
    simp only [Act.put, List.setIfInBounds_toArray, List.set_cons_zero, List.set_cons_succ]
    refine skipH (i := 4) (some 9) rfl rfl (by kernel_rfl) (by kernel_rfl) (by kernel_rfl) (fun _ _ _ h => h) (by rfl) (by assumption) ?_
    simp only [Act.put, List.setIfInBounds_toArray, List.set_cons_zero, List.set_cons_succ]
    refine skipH (i := 5) (some 10) rfl rfl (by kernel_rfl) (by kernel_rfl) (by kernel_rfl) (fun _ _ _ h => h) (by rfl) (by assumption) ?_
    simp only [Act.put, List.setIfInBounds_toArray, List.set_cons_zero, List.set_cons_succ]
    refine skipH (i := 6) (some 11) rfl rfl (by kernel_rfl) (by kernel_rfl) (by kernel_rfl) (fun _ _ _ h => h) (by rfl) (by assumption) ?_
    simp only [Act.put, List.setIfInBounds_toArray, List.set_cons_zero, List.set_cons_succ]
    refine skipH (i := 7) (some 12) rfl rfl (by kernel_rfl) (by kernel_rfl) (by kernel_rfl) (fun _ _ _ h => h) (by rfl) (by assumption) ?_
    simp only [Act.put, List.setIfInBounds_toArray, List.set_cons_zero, List.set_cons_succ]
    refine skipH (i := 8) (some 13) rfl rfl (by kernel_rfl) (by kernel_rfl) (by kernel_rfl) (fun _ _ _ h => h) (by rfl) (by assumption) ?_
    simp only [Act.put, List.setIfInBounds_toArray, List.set_cons_zero, List.set_cons_succ]
    refine takeH (i := 9) (some 14) (v := ?_) rfl rfl (by kernel_rfl) (by kernel_rfl) (by kernel_rfl) (fun _ _ _ h => h) (by rfl) ?_ (by assumption) ?_
    rotate_left
    · (intro w hSw; (try dsimp only at hSw); go_simp; try with_reducible rfl)
    simp only [Act.put, List.setIfInBounds_toArray, List.set_cons_zero, List.set_cons_succ]
    refine takeH (i := 10) (some 15) (v := ?_) rfl rfl (by kernel_rfl) (by kernel_rfl) (by kernel_rfl) (fun _ _ _ h => h) (by rfl) ?_ (by assumption) ?_
    rotate_left
    · (intro w hSw; (try dsimp only at hSw); go_simp; try with_reducible rfl)
    simp only [Act.put, List.setIfInBounds_toArray, List.set_cons_zero, List.set_cons_succ]
    refine skipH (i := 11) (some 16) rfl rfl (by kernel_rfl) (by kernel_rfl) (by kernel_rfl) (fun _ _ _ h => h) (by rfl) (by assumption) ?_
    simp only [Act.put, List.setIfInBounds_toArray, List.set_cons_zero, List.set_cons_succ]
    refine skipH (i := 12) (some 17) rfl rfl (by kernel_rfl) (by kernel_rfl) (by kernel_rfl) (fun _ _ _ h => h) (by rfl) (by assumption) ?_
    simp only [Act.put, List.setIfInBounds_toArray, List.set_cons_zero, List.set_cons_succ]
    refine skipH (i := 13) (some 18) rfl rfl (by kernel_rfl) (by kernel_rfl) (by kernel_rfl) (fun _ _ _ h => h) (by rfl) (by assumption) ?_
    simp only [Act.put, List.setIfInBounds_toArray, List.set_cons_zero, List.set_cons_succ]
    refine skipH (i := 14) (some 19) rfl rfl (by kernel_rfl) (by kernel_rfl) (by kernel_rfl) (fun _ _ _ h => h) (by rfl) (by assumption) ?_
    simp only [Act.put, List.setIfInBounds_toArray, List.set_cons_zero, List.set_cons_succ]
    refine skipH (i := 15) (some 20) rfl rfl (by kernel_rfl) (by kernel_rfl) (by kernel_rfl) (fun _ _ _ h => h) (by rfl) (by assumption) ?_
    simp only [Act.put, List.setIfInBounds_toArray, List.set_cons_zero, List.set_cons_succ]
    refine takeH (i := 16) (some 21) (v := ?_) rfl rfl (by kernel_rfl) (by kernel_rfl) (by kernel_rfl) (fun _ _ _ h => h) (by rfl) ?_ (by assumption) ?_
    rotate_left
    · (intro w hSw; (try dsimp only at hSw); go_simp; try with_reducible rfl)
    simp only [Act.put, List.setIfInBounds_toArray, List.set_cons_zero, List.set_cons_succ]
    refine takeH (i := 17) (some 4) (v := ?_) rfl rfl (by kernel_rfl) (by kernel_rfl) (by kernel_rfl) (fun _ _ _ h => h) (by rfl) ?_ (by assumption) ?_
    rotate_left
    · (intro w hSw; (try dsimp only at hSw); go_simp; try with_reducible rfl)
    simp only [Act.put, List.setIfInBounds_toArray, List.set_cons_zero, List.set_cons_succ]
    refine wpAnyH_done (by kernel_rfl) ?_ _
    all_goals go_wp2
    all_goals go_ret
    all_goals exact ⟨rfl, HS.out.1⟩
  · obtain ⟨hp, hq, -⟩ := Pt.both_out hb
    obtain ⟨p1, p2, p3, p4, p5, p6⟩ := Pt.right_out hp
    obtain ⟨q1, q2, q3, q4, q5, q6⟩ := Pt.right_out hq
    have hps : p.s.size ≤ 1000 := by omega
    have hqs : q.s.size ≤ 1000 := by omega
    have E1 := Lib.hid (fun W => end_any p W p3 p4 hps)
    have E2 := Lib.hid (fun W => end_any q W q3 q4 hqs)
    rw [hb] at R
    clear hb hp hq p1 p2 p5 q1 q2 q5
    obtain ⟨b, o, s⟩ := p
    obtain ⟨b', o', s'⟩ := q
    unfold Pt.v at *
    unfold Cells2 at HC
    simp only [Pt.cs] at *
    have X := Lib.hid (HC.out _ HS.out)
    by_cases hlt : o < o' + (s'.size : Int)
    · have HD : Hid (decide (o < o' + (s'.size : Int)) = true) := by unfold Hid; simpa using hlt
      go_enter Try.func54, Try.ntmps54
      go_wp2_with fail
      refine wp_region_held_drew (S := (fun W =>
      W.cell? ⟨w.heap.size, 0, none⟩ = some (.int .i64 b) ∧ W.cell? ⟨w.heap.size, 1, none⟩ = some (.int .i64 o) ∧ W.cell? ⟨w.heap.size, 2, none⟩ = some (.string s) ∧
      W.cell? ⟨w.heap.size + 1, 0, none⟩ = some (.int .i64 b') ∧ W.cell? ⟨w.heap.size + 1, 1, none⟩ = some (.int .i64 o') ∧ W.cell? ⟨w.heap.size + 1, 2, none⟩ = some (.string s'))) (by kernel_rfl) (X.out) (fun hHeld => ?_)
      refine takeH (i := 0) (some 5) (v := ?_) rfl rfl (by kernel_rfl) (by kernel_rfl) (by kernel_rfl) (fun _ _ _ h => h) (by rfl) ?_ (by assumption) ?_
      rotate_left
      · (intro w hSw; (try dsimp only at hSw); go_simp; try with_reducible rfl)
      simp only [Act.put, List.setIfInBounds_toArray, List.set_cons_zero, List.set_cons_succ]
      refine takeH (i := 1) (some 6) (v := ?_) rfl rfl (by kernel_rfl) (by kernel_rfl) (by kernel_rfl) (fun _ _ _ h => h) (by rfl) ?_ (by assumption) ?_
      rotate_left
      · (intro w hSw; (try dsimp only at hSw); go_simp; try with_reducible rfl)
      simp only [Act.put, List.setIfInBounds_toArray, List.set_cons_zero, List.set_cons_succ]
      refine wpAnyH_ready (rs := [2]) (by kernel_rfl) (by simp) ?_
      refine AllReadyH.cons rfl (fun K hK => ?_) AllReadyH.nil
      go_simp
      ((with_reducible refine (R.out _).mono ?_); rintro e w3 ⟨rfl, hB3⟩; replace HS := Lib.hid (HN.out _ _ HS.out hB3); replace X := Lib.hid (HC.out _ HS.out))
      refine hK _ _ (X.out) (fun hHeld => ?_)
      clear hK K
      try simp only [Act.put, List.setIfInBounds_toArray, List.set_cons_zero, List.set_cons_succ]
      refine takeH (i := 3) (some 8) (v := ?_) rfl rfl (by kernel_rfl) (by kernel_rfl) (by kernel_rfl) (fun _ _ _ h => h) (by rfl) ?_ (by assumption) ?_
      rotate_left
      · (intro w hSw; (try dsimp only at hSw); go_simp; try with_reducible rfl)
      simp only [Act.put, List.setIfInBounds_toArray, List.set_cons_zero, List.set_cons_succ]
      refine takeH (i := 4) (some 9) (v := ?_) rfl rfl (by kernel_rfl) (by kernel_rfl) (by kernel_rfl) (fun _ _ _ h => h) (by rfl) ?_ (by assumption) ?_
      rotate_left
      · (intro w hSw; (try dsimp only at hSw); go_simp; try with_reducible rfl)
      simp only [Act.put, List.setIfInBounds_toArray, List.set_cons_zero, List.set_cons_succ]
      refine takeH (i := 5) (some 10) (v := ?_) rfl rfl (by kernel_rfl) (by kernel_rfl) (by kernel_rfl) (fun _ _ _ h => h) (by rfl) ?_ (by assumption) ?_
      rotate_left
      · (intro w hSw; (try dsimp only at hSw); go_simp; try with_reducible rfl)
      simp only [Act.put, List.setIfInBounds_toArray, List.set_cons_zero, List.set_cons_succ]
      refine takeH (i := 6) (some 11) (v := ?_) rfl rfl (by kernel_rfl) (by kernel_rfl) (by kernel_rfl) (fun _ _ _ h => h) (by rfl) ?_ (by assumption) ?_
      rotate_left
      · (intro w hSw; (try dsimp only at hSw); go_simp; try with_reducible rfl)
      simp only [Act.put, List.setIfInBounds_toArray, List.set_cons_zero, List.set_cons_succ]
      refine wpAnyH_ready (rs := [7]) (by kernel_rfl) (by simp) ?_
      refine AllReadyH.cons rfl (fun K hK => ?_) AllReadyH.nil
      go_simp
      ((with_reducible refine (E2.out _).mono ?_); rintro e w3 ⟨rfl, hB3⟩; replace HS := Lib.hid (HN.out _ _ HS.out hB3); replace X := Lib.hid (HC.out _ HS.out))
      refine hK _ _ (X.out) (fun hHeld => ?_)
      clear hK K
      try simp only [Act.put, List.setIfInBounds_toArray, List.set_cons_zero, List.set_cons_succ]
      refine takeH (i := 8) (some 13) (v := ?_) rfl rfl (by kernel_rfl) (by kernel_rfl) (by kernel_rfl) (fun _ _ _ h => h) (by rfl) ?_ (by assumption) ?_
      rotate_left
      · (intro w hSw; (try dsimp only at hSw); go_simp; try with_reducible rfl)
      simp only [Act.put, List.setIfInBounds_toArray, List.set_cons_zero, List.set_cons_succ]
      refine takeH (i := 9) (some 14) (v := ?_) rfl rfl (by kernel_rfl) (by kernel_rfl) (by kernel_rfl) (fun _ _ _ h => h) (by rfl) ?_ (by assumption) ?_
      rotate_left
      · (intro w hSw; (try dsimp only at hSw); go_simp; try with_reducible rfl)
      simp only [Act.put, List.setIfInBounds_toArray, List.set_cons_zero, List.set_cons_succ]
      refine takeH (i := 10) (some 15) (v := ?_) rfl rfl (by kernel_rfl) (by kernel_rfl) (by kernel_rfl) (fun _ _ _ h => h) (by rfl) ?_ (by assumption) ?_
      rotate_left
      · (intro w hSw; (try dsimp only at hSw); go_simp; try with_reducible rfl)
      simp only [Act.put, List.setIfInBounds_toArray, List.set_cons_zero, List.set_cons_succ]
      refine takeH (i := 11) (some 16) (v := ?_) rfl rfl (by kernel_rfl) (by kernel_rfl) (by kernel_rfl) (fun _ _ _ h => h) (by rfl) ?_ (by assumption) ?_
      rotate_left
      · (intro w hSw; (try dsimp only at hSw); go_simp; try with_reducible rfl)
      simp only [Act.put, List.setIfInBounds_toArray, List.set_cons_zero, List.set_cons_succ]
      refine takeH (i := 12) (some 17) (v := ?_) rfl rfl (by kernel_rfl) (by kernel_rfl) (by kernel_rfl) (fun _ _ _ h => h) (by rfl) ?_ (by assumption) ?_
      rotate_left
      · (intro w hSw; (try dsimp only at hSw); go_simp; try with_reducible rfl)
      simp only [Act.put, List.setIfInBounds_toArray, List.set_cons_zero, List.set_cons_succ]
      refine takeH (i := 13) (some 18) (v := ?_) rfl rfl (by kernel_rfl) (by kernel_rfl) (by kernel_rfl) (fun _ _ _ h => h) (by rfl) ?_ (by assumption) ?_
      rotate_left
      · (intro w hSw; (try dsimp only at hSw); go_simp; try with_reducible rfl)
      simp only [Act.put, List.setIfInBounds_toArray, List.set_cons_zero, List.set_cons_succ]
      refine wpAnyH_ready (rs := [14]) (by kernel_rfl) (by simp) ?_
      refine AllReadyH.cons rfl (fun K hK => ?_) AllReadyH.nil
      go_simp
      ((with_reducible refine (E1.out _).mono ?_); rintro e w3 ⟨rfl, hB3⟩; replace HS := Lib.hid (HN.out _ _ HS.out hB3); replace X := Lib.hid (HC.out _ HS.out))
      refine hK _ _ (X.out) (fun hHeld => ?_)
      clear hK K
      try simp only [Act.put, List.setIfInBounds_toArray, List.set_cons_zero, List.set_cons_succ]
      refine takeH (i := 15) (some 20) (v := ?_) rfl rfl (by kernel_rfl) (by kernel_rfl) (by kernel_rfl) (fun _ _ _ h => h) (by rfl) ?_ (by assumption) ?_
      rotate_left
      · (intro w hSw; (try dsimp only at hSw); go_simp; try with_reducible rfl)
      simp only [Act.put, List.setIfInBounds_toArray, List.set_cons_zero, List.set_cons_succ]
      refine takeH (i := 16) (some 21) (v := ?_) rfl rfl (by kernel_rfl) (by kernel_rfl) (by kernel_rfl) (fun _ _ _ h => h) (by rfl) ?_ (by assumption) ?_
      rotate_left
      · (intro w hSw; (try dsimp only at hSw); go_simp; try with_reducible rfl)
      simp only [Act.put, List.setIfInBounds_toArray, List.set_cons_zero, List.set_cons_succ]
      refine takeH (i := 17) (some 4) (v := ?_) rfl rfl (by kernel_rfl) (by kernel_rfl) (by kernel_rfl) (fun _ _ _ h => h) (by rfl) ?_ (by assumption) ?_
      rotate_left
      · (intro w hSw; (try dsimp only at hSw); go_simp; try with_reducible rfl)
      simp only [Act.put, List.setIfInBounds_toArray, List.set_cons_zero, List.set_cons_succ]
      refine wpAnyH_done (by kernel_rfl) ?_ _
      go_wp2
      go_ret
      exact ⟨by simp [HD.out], HS.out.1⟩
    · have HD : Hid (decide (o < o' + (s'.size : Int)) = false) := by unfold Hid; simpa using hlt
      have hd : decide (o < o' + (s'.size : Int)) = false := HD.out
      go_enter Try.func54, Try.ntmps54
      go_wp2_with fail
      refine wp_region_held_drew (S := (fun W =>
      W.cell? ⟨w.heap.size, 0, none⟩ = some (.int .i64 b) ∧ W.cell? ⟨w.heap.size, 1, none⟩ = some (.int .i64 o) ∧ W.cell? ⟨w.heap.size, 2, none⟩ = some (.string s) ∧
      W.cell? ⟨w.heap.size + 1, 0, none⟩ = some (.int .i64 b') ∧ W.cell? ⟨w.heap.size + 1, 1, none⟩ = some (.int .i64 o') ∧ W.cell? ⟨w.heap.size + 1, 2, none⟩ = some (.string s'))) (by kernel_rfl) (X.out) (fun hHeld => ?_)
      refine takeH (i := 0) (some 5) (v := ?_) rfl rfl (by kernel_rfl) (by kernel_rfl) (by kernel_rfl) (fun _ _ _ h => h) (by rfl) ?_ (by assumption) ?_
      rotate_left
      · (intro w hSw; (try dsimp only at hSw); go_simp; try with_reducible rfl)
      simp only [Act.put, List.setIfInBounds_toArray, List.set_cons_zero, List.set_cons_succ]
      refine takeH (i := 1) (some 6) (v := ?_) rfl rfl (by kernel_rfl) (by kernel_rfl) (by kernel_rfl) (fun _ _ _ h => h) (by rfl) ?_ (by assumption) ?_
      rotate_left
      · (intro w hSw; (try dsimp only at hSw); go_simp; try with_reducible rfl)
      simp only [Act.put, List.setIfInBounds_toArray, List.set_cons_zero, List.set_cons_succ]
      refine wpAnyH_ready (rs := [2]) (by kernel_rfl) (by simp) ?_
      refine AllReadyH.cons rfl (fun K hK => ?_) AllReadyH.nil
      go_simp
      ((with_reducible refine (R.out _).mono ?_); rintro e w3 ⟨rfl, hB3⟩; replace HS := Lib.hid (HN.out _ _ HS.out hB3); replace X := Lib.hid (HC.out _ HS.out))
      refine hK _ _ (X.out) (fun hHeld => ?_)
      clear hK K
      try simp only [Act.put, List.setIfInBounds_toArray, List.set_cons_zero, List.set_cons_succ]
      refine takeH (i := 3) (some 8) (v := ?_) rfl rfl (by kernel_rfl) (by kernel_rfl) (by kernel_rfl) (fun _ _ _ h => h) (by rfl) ?_ (by assumption) ?_
      rotate_left
      · (intro w hSw; (try dsimp only at hSw); go_simp; try with_reducible rfl)
      simp only [Act.put, List.setIfInBounds_toArray, List.set_cons_zero, List.set_cons_succ]
      refine takeH (i := 4) (some 9) (v := ?_) rfl rfl (by kernel_rfl) (by kernel_rfl) (by kernel_rfl) (fun _ _ _ h => h) (by rfl) ?_ (by assumption) ?_
      rotate_left
      · (intro w hSw; (try dsimp only at hSw); go_simp; try with_reducible rfl)
      simp only [Act.put, List.setIfInBounds_toArray, List.set_cons_zero, List.set_cons_succ]
      refine takeH (i := 5) (some 10) (v := ?_) rfl rfl (by kernel_rfl) (by kernel_rfl) (by kernel_rfl) (fun _ _ _ h => h) (by rfl) ?_ (by assumption) ?_
      rotate_left
      · (intro w hSw; (try dsimp only at hSw); go_simp; try with_reducible rfl)
      simp only [Act.put, List.setIfInBounds_toArray, List.set_cons_zero, List.set_cons_succ]
      refine takeH (i := 6) (some 11) (v := ?_) rfl rfl (by kernel_rfl) (by kernel_rfl) (by kernel_rfl) (fun _ _ _ h => h) (by rfl) ?_ (by assumption) ?_
      rotate_left
      · (intro w hSw; (try dsimp only at hSw); go_simp; try with_reducible rfl)
      simp only [Act.put, List.setIfInBounds_toArray, List.set_cons_zero, List.set_cons_succ]
      refine wpAnyH_ready (rs := [7]) (by kernel_rfl) (by simp) ?_
      refine AllReadyH.cons rfl (fun K hK => ?_) AllReadyH.nil
      go_simp
      ((with_reducible refine (E2.out _).mono ?_); rintro e w3 ⟨rfl, hB3⟩; replace HS := Lib.hid (HN.out _ _ HS.out hB3); replace X := Lib.hid (HC.out _ HS.out))
      refine hK _ _ (X.out) (fun hHeld => ?_)
      clear hK K
      try simp only [Act.put, List.setIfInBounds_toArray, List.set_cons_zero, List.set_cons_succ]
      refine takeH (i := 8) (some 13) (v := ?_) rfl rfl (by kernel_rfl) (by kernel_rfl) (by kernel_rfl) (fun _ _ _ h => h) (by rfl) ?_ (by assumption) ?_
      rotate_left
      · (intro w hSw; (try dsimp only at hSw); go_simp; try with_reducible rfl)
      simp only [Act.put, List.setIfInBounds_toArray, List.set_cons_zero, List.set_cons_succ]
      refine takeH (i := 9) (some 14) (v := ?_) rfl rfl (by kernel_rfl) (by kernel_rfl) (by kernel_rfl) (fun _ _ _ h => h) (by rfl) ?_ (by assumption) ?_
      rotate_left
      · (intro w hSw; (try dsimp only at hSw); go_simp; try with_reducible rfl)
      simp only [Act.put, List.setIfInBounds_toArray, List.set_cons_zero, List.set_cons_succ]
      refine takeH (i := 10) (some 15) (v := ?_) rfl rfl (by kernel_rfl) (by kernel_rfl) (by kernel_rfl) (fun _ _ _ h => h) (by rfl) ?_ (by assumption) ?_
      rotate_left
      · (intro w hSw; (try dsimp only at hSw); go_simp; try with_reducible rfl)
      simp only [Act.put, List.setIfInBounds_toArray, List.set_cons_zero, List.set_cons_succ]
      refine skipH (i := 11) (some 16) rfl rfl (by kernel_rfl) (by kernel_rfl) (by kernel_rfl) (fun _ _ _ h => h) (by rfl) (by assumption) ?_
      simp only [Act.put, List.setIfInBounds_toArray, List.set_cons_zero, List.set_cons_succ]
      refine skipH (i := 12) (some 17) rfl rfl (by kernel_rfl) (by kernel_rfl) (by kernel_rfl) (fun _ _ _ h => h) (by rfl) (by assumption) ?_
      simp only [Act.put, List.setIfInBounds_toArray, List.set_cons_zero, List.set_cons_succ]
      refine skipH (i := 13) (some 18) rfl rfl (by kernel_rfl) (by kernel_rfl) (by kernel_rfl) (fun _ _ _ h => h) (by rfl) (by assumption) ?_
      simp only [Act.put, List.setIfInBounds_toArray, List.set_cons_zero, List.set_cons_succ]
      refine skipH (i := 14) (some 19) rfl rfl (by kernel_rfl) (by kernel_rfl) (by kernel_rfl) (fun _ _ _ h => h) (by rfl) (by assumption) ?_
      simp only [Act.put, List.setIfInBounds_toArray, List.set_cons_zero, List.set_cons_succ]
      refine skipH (i := 15) (some 20) rfl rfl (by kernel_rfl) (by kernel_rfl) (by kernel_rfl) (fun _ _ _ h => h) (by rfl) (by assumption) ?_
      simp only [Act.put, List.setIfInBounds_toArray, List.set_cons_zero, List.set_cons_succ]
      refine takeH (i := 16) (some 21) (v := ?_) rfl rfl (by kernel_rfl) (by kernel_rfl) (by kernel_rfl) (fun _ _ _ h => h) (by rfl) ?_ (by assumption) ?_
      rotate_left
      · (intro w hSw; (try dsimp only at hSw); go_simp; try with_reducible rfl)
      simp only [Act.put, List.setIfInBounds_toArray, List.set_cons_zero, List.set_cons_succ]
      refine takeH (i := 17) (some 4) (v := ?_) rfl rfl (by kernel_rfl) (by kernel_rfl) (by kernel_rfl) (fun _ _ _ h => h) (by rfl) ?_ (by assumption) ?_
      rotate_left
      · (intro w hSw; (try dsimp only at hSw); go_simp; try with_reducible rfl)
      simp only [Act.put, List.setIfInBounds_toArray, List.set_cons_zero, List.set_cons_succ]
      refine wpAnyH_done (by kernel_rfl) ?_ _
      go_wp2
      go_ret
      exact ⟨by simp [HD.out], HS.out.1⟩
end Go.Proofs.Ytkldiofleepkfaa
