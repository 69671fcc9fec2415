/- An engine that takes a patch more: what it is then, in memory. -/
import Derived.Test.YtkldiofleepkfaaHX
import Derived.Test.YtkldiofleepkfaaDI
set_option linter.unusedVariables false
set_option linter.unusedSimpArgs false
namespace Go.Proofs.Ytkldiofleepkfaa.Hd
open Go.RowKit
open Go.Maps (Keyed)
def fset {α : Type} (f : Int → α) (k : Int) (v : α) : Int → α := fun x => if x = k then v else f x
theorem fset_at {α : Type} (f : Int → α) (k : Int) (v : α) : fset f k v k = v := by simp [fset]
theorem fset_ne {α : Type} (f : Int → α) {k x : Int} (v : α) (h : x ≠ k) : fset f k v x = f x := by simp [fset, h]
theorem PMap.not_cells {w : World} {b c : Nat} {ks : List Int} {f : Int → Nat} (h : PMap w b c ks f) {cs : Array Value} {t : TypeId} {fr : Nat × Nat} {b2 : Nat} (hb : w.heap[b2]? = some (.cells cs t fr)) : b2 ≠ b := by
  obtain ⟨es, cl, e⟩ := h.isMap
  intro q
  subst q
  rw [hb] at e; cases e
theorem cells_ne {w : World} {a b : Nat} {cs cs' : Array Value} {t t' : TypeId} {fr fr' : Nat × Nat} (h1 : w.heap[a]? = some (.cells cs t fr)) (h2 : w.heap[b]? = some (.cells cs' t' fr')) (h : t ≠ t') : a ≠ b := by
  intro e
  subst e
  rw [h1] at h2
  simp at h2
  exact h h2.2.1
section
variable {w w' : World} {g gd n cc : Nat} {S : Nat → Bk} {k jo id : Int} {l : List Hw} {sent : List Int} {m : Lay} {Fd : Nat → Prop}
/-- its own cells alone have turned -/
theorem HAt.headed {k' jo' id' : Int} (h : HAt w g gd n S cc k jo id l sent m Fd) (hk : Kept w w' (fun b => b = g)) (hh : w'.heap[g]? = some (.cells (hcs gd k' jo' id' m) 45 (0, 0))) (hkk : k ≤ k') : HAt w' g gd n S cc k' jo' id' l sent m Fd where
  head := hh
  disk := h.disk.keep hk fun b q e => by subst e; exact Code.not_typeH h.disk h.head (by decide) (by decide) q
  wmap := h.wmap.keep hk (fun e => h.wmap.not_cells h.head e.symm)
  umap := h.umap.keep hk (fun e => h.umap.not_cells h.head e.symm)
  ws := fun x hx => by
    rw [hk.block _ (Array.getElem?_eq_some_iff.1 (h.ws x hx)).1 (cells_ne (h.ws x hx) h.head (by decide))]; exact h.ws x hx
  ahs := fun x hx => hk.row (h.ahs x hx) fun b hb q => by
    obtain ⟨cs, e⟩ := h.ah_own hx ((own_eq _ _ _).symm.trans hb)
    exact cells_ne e h.head (by decide) q
  us := fun u hu => by
    rw [hk.block _ (Array.getElem?_eq_some_iff.1 (h.us u hu)).1 (cells_ne (h.us u hu) h.head (by decide))]; exact h.us u hu
  ups := fun u hu => hk.row (h.ups u hu) fun b hb q => by
    obtain ⟨cs, e⟩ := h.row_typed hu ((own_eq _ _ _).symm.trans hb)
    exact cells_ne e h.head (by decide) q
  ok := h.ok
  sok := h.sok
  right := h.right
  blk := h.blk
  lo := h.lo.more hkk
  ah0 := h.ah0
  k0 := Int.le_trans h.k0 hkk
  few := h.few
  maps := h.maps
  gwd := h.gwd
  gud := h.gud
/-- no two units lie in one block -/
theorem HAt.up_inj (h : HAt w g gd n S cc k jo id l sent m Fd) {u v : Int} (hu : u ∈ units l) (hv : v ∈ units l) (e : m.up u = m.up v) : u = v := by
  have h1 := h.us u hu
  have h2 := h.us v hv
  rw [e, h2] at h1
  simp [ucs] at h1
  exact h1.1.symm
theorem HAt.wp_inj (h : HAt w g gd n S cc k jo id l sent m Fd) {x y : Hw} (hx : x ∈ l) (hy : y ∈ l) (e : m.wp x.num = m.wp y.num) : x.num = y.num := by
  have h1 := h.ws x hx
  have h2 := h.ws y hy
  rw [e, h2] at h1
  simp [Hw.cs] at h1
  exact h1.1.symm
/-- a unit's first patch bears its number -/
theorem ofU_head {l : List Hw} (h : Ok l) {u : Int} (hu : u ∈ units l) : ∃ x r, ofU l u = x :: r ∧ x.num = u := by
  obtain ⟨x, hx, e1, e2⟩ := mem_units.1 hu
  have hm : x ∈ ofU l u := mem_ofU.2 ⟨hx, e2⟩
  cases hc : ofU l u with
  | nil => rw [hc] at hm; cases hm
  | cons y r =>
    refine ⟨y, r, rfl, ?_⟩
    have hy : y ∈ ofU l u := by rw [hc]; exact List.mem_cons_self
    have h1 := h.low y (mem_ofU.1 hy).1
    rw [(mem_ofU.1 hy).2] at h1
    have hp : (ofU l u).Pairwise fun a b => a.num < b.num := h.asc.filter _
    rw [hc] at hp hm
    rcases List.mem_cons.1 hm with q | q
    · rw [← q]; exact e1
    · have := (List.pairwise_cons.1 hp).1 x q
      omega
/-- nor do two units' rows -/
theorem HAt.rows_apart (h : HAt w g gd n S cc k jo id l sent m Fd) {u v : Int} (hu : u ∈ units l) (hv : v ∈ units l) {b : Nat} (e1 : own (m.UA u) = some b) (e2 : own (m.UA v) = some b) : u = v := by
  have key : ∀ {u : Int}, u ∈ units l → own (m.UA u) = some b → w.cell? ⟨b, 0, none⟩ = some (ptr (m.wp u)) := fun {u} hu e => by
    obtain ⟨x, r, hc, hx⟩ := ofU_head h.ok hu
    obtain ⟨ab, hA, _, _, _, hcs, _⟩ := ptr_at (h.ups u hu) (q := 0) (by rw [hc]; simp)
    rw [hA] at e
    obtain rfl : ab = b := by simpa [own] using e
    rw [hcs, hc]
    simp [hx]
  have q1 := key hu e1
  have q2 := key hv e2
  rw [q1] at q2
  have q3 : m.wp u = m.wp v := by simpa [ptr] using q2
  obtain ⟨x, hx, ex, _⟩ := mem_units.1 hu
  obtain ⟨y, hy, ey, _⟩ := mem_units.1 hv
  rw [← ex, ← ey] at q3 ⊢
  exact h.wp_inj hx hy q3
end
theorem ofU_snoc_ne {l : List Hw} {x : Hw} {v : Int} (h : x.u ≠ v) : ofU (l ++ [x]) v = ofU l v := by simp [ofU, h]
theorem ofU_snoc {l : List Hw} {x : Hw} : ofU (l ++ [x]) x.u = ofU l x.u ++ [x] := by simp [ofU]
theorem units_snoc_new {l : List Hw} {x : Hw} (h : x.num = x.u) : units (l ++ [x]) = units l ++ [x.num] := by simp [units, heads, h]
theorem units_snoc_old {l : List Hw} {x : Hw} (h : x.num ≠ x.u) : units (l ++ [x]) = units l := by simp [units, heads, h]
theorem nums_snoc (l : List Hw) (x : Hw) : nums (l ++ [x]) = nums l ++ [x.num] := by simp [nums]
/-- one that is added: where it lies, its unit's row anew -/
def layAdd (m : Lay) (k u : Int) (bw : Nat) (A : Option Addr) (c : Nat) (bu : Nat) (A2 : Option Addr) (c2 : Nat) : Lay :=
  { m with wp := fset m.wp k bw, WA := fset m.WA k A, WC := fset m.WC k c, up := fset m.up u bu, UA := fset m.UA u A2, UC := fset m.UC u c2 }
section
variable {w w' : World} {g gd n cc cc' : Nat} {S : Nat → Bk} {k jo jo' id : Int} {l : List Hw} {sent : List Int} {m : Lay} {Fd : Nat → Prop}
theorem HAt.added (h : HAt w g gd n S cc (k + 1) jo id l sent m Fd) (hlo : Lo l k) (hk0 : 0 ≤ k) {x : Hw} (hxn : x.num = k) (hok : Ok (l ++ [x])) (hsok : SentOk (l ++ [x]) sent) (hxr : x.p.right = true) (hxb : x.p.b < n) (hxa : ∀ d ∈ x.ah, 0 ≤ d) (hl : l.length < 200) (hus : x.u ∉ sent) (hcc : cc ≤ cc')
    (hu : (x.u = k ∧ x.u ∉ units l) ∨ (x.u ≠ k ∧ x.u ∈ units l)) {T : Nat → Prop} (hT : ∀ b, T b → b = g ∨ b = m.gw ∨ b = m.gu ∨ (x.u ∈ units l ∧ (b = m.up x.u ∨ own (m.UA x.u) = some b))) (hk : Kept w w' T)
    {bw c bu c2 : Nat} {A A2 : Option Addr} (hbw : w.heap.size ≤ bw) (hbu : (x.u ∈ units l ∧ bu = m.up x.u) ∨ w.heap.size ≤ bu) (hA2 : (x.u ∈ units l ∧ own A2 = own (m.UA x.u)) ∨ ∀ b, own A2 = some b → w.heap.size ≤ b)
    (hh : w'.heap[g]? = some (.cells (hcs gd (k + 1) jo' id m) 45 (0, 0))) (hw : PMap w' m.gw cc' (nums l ++ [k]) (fset m.wp k bw)) (hum : PMap w' m.gu cc' (units (l ++ [x])) (fset m.up x.u bu))
    (hwb : w'.heap[bw]? = some (.cells (x.cs A c) 84 (0, 0))) (hwa : w'.ownsRow 0 3 1 (.slice A x.ah.length c) x.ah.length (intsI x.ah))
    (hub : w'.heap[bu]? = some (.cells (ucs x.u x.p.b A2 ((ofU l x.u).length + 1) c2 false) 62 (0, 0))) (hua : w'.ownsRow 0 82 1 (.slice A2 ((ofU l x.u).length + 1) c2) ((ofU l x.u).length + 1) (((ofU l x.u).map fun y => ptr (m.wp y.num)) ++ [ptr bw])) :
    HAt w' g gd n S cc' (k + 1) jo' id (l ++ [x]) sent (layAdd m k x.u bw A c bu A2 c2) Fd ∧ ∀ b, footH g (l ++ [x]) (layAdd m k x.u bw A c bu A2 c2) Fd b → footH g l m Fd b ∨ w.heap.size ≤ b := by
  have hold : ∀ y ∈ l, y.num ≠ k := fun y hy e => by have := (hlo y hy).2; omega
  have hun : ∀ v ∈ units l, v ≠ k := fun v hv e => by
    obtain ⟨y, hy, e1, _⟩ := mem_units.1 hv
    exact hold y hy (e1.trans e)
  have hTt : ∀ b cs t fr, w.heap[b]? = some (.cells cs t fr) → t ≠ 45 → t ≠ 62 → t ≠ 82 → ¬ T b := fun b cs t fr e h1 h2 h3 q => by
    rcases hT b q with q | q | q | ⟨hu', q | q⟩
    · exact cells_ne e h.head h1 q
    · exact h.wmap.not_cells e q
    · exact h.umap.not_cells e q
    · exact cells_ne e (h.us _ hu') h2 q
    · obtain ⟨cs', e'⟩ := h.row_typed hu' q
      exact cells_ne e e' h3 rfl
  have hmu : ∀ v, v ∈ units (l ++ [x]) ↔ v ∈ units l ∨ v = x.u := fun v => by
    rcases hu with ⟨e, _⟩ | ⟨e, h2⟩
    · rw [units_snoc_new (by rw [hxn, e]), List.mem_append, List.mem_singleton, hxn, e]
    · rw [units_snoc_old (by rw [hxn]; exact fun q => e q.symm)]
      exact ⟨.inl, fun q => q.elim (fun q => q) (fun q => by rw [q]; exact h2)⟩
  have hub2 : ∀ v ∈ units l, ubl (l ++ [x]) v = ubl l v := fun v hv => by
    obtain ⟨y, hy, e1, _⟩ := mem_units.1 hv
    rw [← e1, ubl_at hok.asc (List.mem_append_left _ hy), ubl_at h.ok.asc hy]
  have hubx : ubl (l ++ [x]) x.u = x.p.b := by
    obtain ⟨y, hy, e1, _, e3⟩ := hok.head x (by simp)
    rw [← e1, ubl_at hok.asc hy, e3]
  have hcs : sent.contains x.u = false := by simpa using hus
  refine ⟨{ head := hh, disk := ?_, wmap := ?_, umap := hum, ws := ?_, ahs := ?_, us := ?_, ups := ?_, ok := hok, sok := hsok, right := ?_, blk := ?_, lo := ?_, ah0 := ?_, k0 := h.k0, few := by simp; omega, maps := h.maps, gwd := h.gwd, gud := h.gud }, ?_⟩
  · refine Code.monoH (h.disk.keep hk fun b q1 q2 => ?_) hcc
    rcases hT b q2 with q | q | q | ⟨hu', q | q⟩
    · subst q; exact Code.not_typeH h.disk h.head (by decide) (by decide) q1
    · subst q; exact h.gwd q1
    · subst q; exact h.gud q1
    · subst q; exact Code.not_typeH h.disk (h.us _ hu') (by decide) (by decide) q1
    · obtain ⟨cs', e'⟩ := h.row_typed hu' q
      exact Code.not_typeH h.disk e' (by decide) (by decide) q1
  · rw [nums_snoc, hxn]; exact hw
  · intro y hy
    rcases List.mem_append.1 hy with q | q
    · show w'.heap[fset m.wp k bw y.num]? = some (.cells (y.cs (fset m.WA k A y.num) (fset m.WC k c y.num)) 84 (0, 0))
      rw [fset_ne _ _ (hold y q), fset_ne _ _ (hold y q), fset_ne _ _ (hold y q), hk.block _ (Array.getElem?_eq_some_iff.1 (h.ws y q)).1 (hTt _ _ _ _ (h.ws y q) (by decide) (by decide) (by decide))]
      exact h.ws y q
    · rw [List.mem_singleton] at q
      subst q
      show w'.heap[fset m.wp k bw y.num]? = some (.cells (y.cs (fset m.WA k A y.num) (fset m.WC k c y.num)) 84 (0, 0))
      rw [hxn, fset_at, fset_at, fset_at]; exact hwb
  · intro y hy
    rcases List.mem_append.1 hy with q | q
    · show w'.ownsRow 0 3 1 (.slice (fset m.WA k A y.num) y.ah.length (fset m.WC k c y.num)) y.ah.length (intsI y.ah)
      rw [fset_ne _ _ (hold y q), fset_ne _ _ (hold y q)]
      refine hk.row (h.ahs y q) fun b hb => ?_
      obtain ⟨cs, e⟩ := h.ah_own q ((own_eq _ _ _).symm.trans hb)
      exact hTt _ _ _ _ e (by decide) (by decide) (by decide)
    · rw [List.mem_singleton] at q
      subst q
      show w'.ownsRow 0 3 1 (.slice (fset m.WA k A y.num) y.ah.length (fset m.WC k c y.num)) y.ah.length (intsI y.ah)
      rw [hxn, fset_at, fset_at]; exact hwa
  · intro v hv
    show w'.heap[fset m.up x.u bu v]? = some (.cells (ucs v (ubl (l ++ [x]) v) (fset m.UA x.u A2 v) (ofU (l ++ [x]) v).length (fset m.UC x.u c2 v) (sent.contains v)) 62 (0, 0))
    by_cases e : v = x.u
    · subst e
      rw [fset_at, fset_at, fset_at, hubx, hcs, ofU_snoc, List.length_append]
      exact hub
    · have hv' : v ∈ units l := ((hmu v).1 hv).resolve_right e
      rw [fset_ne _ _ e, fset_ne _ _ e, fset_ne _ _ e, hub2 v hv', ofU_snoc_ne (fun q => e q.symm), hk.block _ (Array.getElem?_eq_some_iff.1 (h.us v hv')).1 (fun q => ?_)]
      · exact h.us v hv'
      · rcases hT _ q with q | q | q | ⟨hu', q | q⟩
        · exact cells_ne (h.us v hv') h.head (by decide) q
        · exact h.wmap.not_cells (h.us v hv') q
        · exact h.umap.not_cells (h.us v hv') q
        · exact e (h.up_inj hv' hu' q)
        · obtain ⟨cs', e'⟩ := h.row_typed hu' q
          exact cells_ne (h.us v hv') e' (by decide) rfl
  · intro v hv
    show w'.ownsRow 0 82 1 (.slice (fset m.UA x.u A2 v) (ofU (l ++ [x]) v).length (fset m.UC x.u c2 v)) (ofU (l ++ [x]) v).length ((ofU (l ++ [x]) v).map fun y => ptr (fset m.wp k bw y.num))
    have hmap : ∀ v, ((ofU l v).map fun y => ptr (fset m.wp k bw y.num)) = (ofU l v).map fun y => ptr (m.wp y.num) := fun v => List.map_congr_left fun y hy => by rw [fset_ne _ _ (hold y (mem_ofU.1 hy).1)]
    by_cases e : v = x.u
    · subst e
      rw [fset_at, fset_at, ofU_snoc, List.length_append, List.map_append, hmap]
      simp only [List.map_cons, List.map_nil, List.length_singleton]
      rw [hxn, fset_at]
      exact hua
    · have hv' : v ∈ units l := ((hmu v).1 hv).resolve_right e
      rw [fset_ne _ _ e, fset_ne _ _ e, ofU_snoc_ne (fun q => e q.symm), hmap]
      refine hk.row (h.ups v hv') fun b hb q => ?_
      have hb' := (own_eq _ _ _).symm.trans hb
      obtain ⟨cs, ec⟩ := h.row_typed hv' hb'
      rcases hT _ q with q | q | q | ⟨hu', q | q⟩
      · exact cells_ne ec h.head (by decide) q
      · exact h.wmap.not_cells ec q
      · exact h.umap.not_cells ec q
      · exact cells_ne ec (h.us _ hu') (by decide) q
      · exact e (h.rows_apart hv' hu' hb' q)
  · intro y hy
    rcases List.mem_append.1 hy with q | q
    · exact h.right y q
    · rw [List.mem_singleton.1 q]; exact hxr
  · intro y hy
    rcases List.mem_append.1 hy with q | q
    · exact h.blk y q
    · rw [List.mem_singleton.1 q]; exact hxb
  · intro y hy
    rcases List.mem_append.1 hy with q | q
    · exact h.lo y q
    · rw [List.mem_singleton.1 q, hxn]; omega
  · intro y hy
    rcases List.mem_append.1 hy with q | q
    · exact h.ah0 y q
    · rw [List.mem_singleton.1 q]; exact hxa
  · rintro b (q | q | q | ⟨v, hv, q⟩ | q)
    · exact .inl (.inl q)
    · exact .inl (.inr (.inl q))
    · exact .inl (.inr (.inr (.inl q)))
    · by_cases e : v = x.u
      · subst e
        rcases q with q | q
        · have q' : b = bu := by rw [q]; exact fset_at _ _ _
          rcases hbu with ⟨hu', e2⟩ | e2
          · exact .inl (.inr (.inr (.inr (.inl ⟨x.u, hu', .inl (q'.trans e2)⟩))))
          · exact .inr (by omega)
        · have q' : own A2 = some b := by rw [← q]; show own A2 = own (fset m.UA x.u A2 x.u); rw [fset_at]
          rcases hA2 with ⟨hu', e2⟩ | e2
          · exact .inl (.inr (.inr (.inr (.inl ⟨x.u, hu', .inr (by rw [← e2]; exact q')⟩))))
          · exact .inr (e2 b q')
      · have hv' : v ∈ units l := ((hmu v).1 hv).resolve_right e
        refine .inl (.inr (.inr (.inr (.inl ⟨v, hv', ?_⟩))))
        rcases q with q | q
        · left; rw [q]; exact fset_ne _ _ e
        · right; rw [← q]; show own (m.UA v) = own (fset m.UA x.u A2 v); rw [fset_ne _ _ e]
    · exact .inl (.inr (.inr (.inr (.inr q))))
end
end Go.Proofs.Ytkldiofleepkfaa.Hd
