/- A patch is laid into its unit and among those that wait: what memory is at each step. -/
import Derived.Test.YtkldiofleepkfaaHY
set_option linter.unusedVariables false
set_option linter.unusedSimpArgs false
namespace Go.Proofs.Ytkldiofleepkfaa.Hd
open Go.RowKit
open Go.Maps (Keyed)
theorem infoPW : (Try.prog.info? 82).map (fun i => (i.zero, i.size, i.bytes)) = some (some (.pointer none), 1, 8) := by kernel_rfl
def ptrsW (m : Lay) (l : List Hw) (u : Int) : List Value := (ofU l u).map fun y => ptr (m.wp y.num)
/-- its unit is there, at ub, with the row UA; it itself is not yet -/
structure Mid (w W7 : World) (g gd n : Nat) (S : Nat → Bk) (cc : Nat) (k jo jo' id : Int) (l : List Hw) (sent : List Int) (m : Lay) (Fd : Nat → Prop) (x : Hw) (ub : Nat) (UA : Option Addr) (UC : Nat) (A : Option Addr) (c : Nat) : Prop where
  h : HAt w g gd n S cc (k + 1) jo id l sent m Fd
  kk : Kept w W7 (fun b => b = g ∨ b = m.gu)
  head : W7.heap[g]? = some (.cells (hcs gd (k + 1) jo' id m) 45 (0, 0))
  um : PMap W7 m.gu (cc + 1) (units (l ++ [x])) (fset m.up x.u ub)
  un : W7.heap[ub]? = some (.cells (ucs x.u x.p.b UA (ofU l x.u).length UC false) 62 (0, 0))
  row : W7.ownsRow 0 82 1 (.slice UA (ofU l x.u).length UC) (ofU l x.u).length (ptrsW m l x.u)
  ahr : W7.ownsRow 0 3 1 (.slice A x.ah.length c) x.ah.length (intsI x.ah)
  cas : (x.u ∈ units l ∧ ub = m.up x.u ∧ own UA = own (m.UA x.u)) ∨ (x.u ∉ units l ∧ w.heap.size ≤ ub ∧ own UA = none)
theorem row_cells {w : World} {B e size n c : Nat} {A : Option Addr} {xs : List Value} (h : w.ownsRow B e size (.slice A n c) n xs) {b : Nat} (hb : own A = some b) : ∃ cs, w.heap[b]? = some (.cells cs e (0, 0)) := by
  rcases h.2 with ⟨q, _⟩ | ⟨g2, cap, cur, q, _, hg, _⟩
  · obtain ⟨q1, _, _⟩ := Value.slice.inj q
    rw [q1] at hb; simp [own] at hb
  · obtain ⟨q1, _, _⟩ := Value.slice.inj q
    rw [q1] at hb
    simp [own] at hb
    subst hb
    exact ⟨_, hg⟩
theorem grown_block {w w' : World} {o : Obj} {A : Option Addr} {n c b : Nat} (hg : (w.alloc o).grownBy w' (Value.slice A n c).ownBlock) (hb : b < w.heap.size) (hn : own A ≠ some b) : w'.heap[b]? = w.heap[b]? :=
  (hg.block b (by simp; omega) (fun e => hn (by rw [← own_eq A n c]; exact e.symm))).trans ((below_alloc1 w o).block b hb)
namespace Mid
variable {w W7 W8 w9 w11 : World} {g gd n cc : Nat} {S : Nat → Bk} {k jo jo' id : Int} {l : List Hw} {sent : List Int} {m : Lay} {Fd : Nat → Prop} {x : Hw} {ub : Nat} {UA : Option Addr} {UC : Nat} {A : Option Addr} {c : Nat}
theorem ubg (h : Mid w W7 g gd n S cc k jo jo' id l sent m Fd x ub UA UC A c) : ub ≠ g := cells_ne h.un h.head (by decide)
theorem wm (h : Mid w W7 g gd n S cc k jo jo' id l sent m Fd x ub UA UC A c) : PMap W7 m.gw cc (nums l) m.wp := h.h.wmap.keep h.kk (fun q => q.elim (fun e => h.h.wmap.not_cells h.h.head e.symm) (fun e => h.h.maps e))
theorem ubw (h : Mid w W7 g gd n S cc k jo jo' id l sent m Fd x ub UA UC A c) : ub ≠ m.gw := h.wm.not_cells h.un
theorem rown (h : Mid w W7 g gd n S cc k jo jo' id l sent m Fd x ub UA UC A c) {b : Nat} (hb : own UA = some b) : b ≠ g ∧ b ≠ m.gw ∧ b ≠ m.gu ∧ b ≠ ub ∧ b < W7.heap.size := by
  obtain ⟨cs, e⟩ := row_cells h.row hb
  exact ⟨cells_ne e h.head (by decide), h.wm.not_cells e, h.um.not_cells e, cells_ne e h.un (by decide), (Array.getElem?_eq_some_iff.1 e).1⟩
/-- what the walk meets behind the new box -/
theorem at8 (h : Mid w W7 g gd n S cc k jo jo' id l sent m Fd x ub UA UC A c) (h8 : W8 = (W7.alloc (.cells (x.cs A c) 84)).drew) :
    W8.cell? ⟨ub, 2, none⟩ = some (.slice UA (ofU l x.u).length UC) ∧ ub < W8.heap.size ∧ W8.heap.size = W7.heap.size + 1 ∧ W8.ownsRow 0 82 1 (.slice UA (ofU l x.u).length UC) (ofU l x.u).length (ptrsW m l x.u) ∧ Below W7.heap.size W7 W8 ∧ W8.heap[W7.heap.size]? = some (.cells (x.cs A c) 84 (0, 0)) := by
  have hB : Below W7.heap.size W7 W8 := by rw [h8]; exact (below_alloc1 W7 _).drew
  have hul := (Array.getElem?_eq_some_iff.1 h.un).1
  refine ⟨(hB.cell (p := ⟨ub, 2, none⟩) hul).trans (cell_of_row W7 _ 2 _ 62 (0, 0) h.un), Nat.lt_of_lt_of_le hul hB.size, by rw [h8]; simp, (Kept.fresh (S := fun _ => False) hB).row h.row (fun _ _ q => q), hB, ?_⟩
  rw [h8]; exact heap_alloc_new W7 _
/-- and behind the append -/
theorem at9 (h : Mid w W7 g gd n S cc k jo jo' id l sent m Fd x ub UA UC A c) (h8 : W8 = (W7.alloc (.cells (x.cs A c) 84)).drew) {o : Obj} (hg : (W8.alloc o).grownBy w9 (Value.slice UA (ofU l x.u).length UC).ownBlock) :
    w9.cell? ⟨ub, 2, none⟩ = some (.slice UA (ofU l x.u).length UC) ∧ w9.frozen? ⟨ub, 2, none⟩ = false ∧ ub < w9.heap.size ∧ w9.cell? ⟨g, 4, none⟩ = some (.map (some m.gw)) ∧ g < w9.heap.size ∧ ub ≠ g ∧ ∃ D : DataW Value, (∀ v, (w9.setCell ⟨ub, 2, none⟩ v).ownsMap Try.prog 3 RV m.gw cc D) ∧ (∀ z, Maps.has D (.int .i64 z) = true ↔ z ∈ nums l) ∧ ∀ z ∈ nums l, ∀ q, D.atKey (.int .i64 z) q = .held (ptr (m.wp z)) := by
  obtain ⟨_, hul8, hs8, _, hB, _⟩ := h.at8 h8
  have hul := (Array.getElem?_eq_some_iff.1 h.un).1
  have hgl := (Array.getElem?_eq_some_iff.1 h.head).1
  have e9 : ∀ b, b < W7.heap.size → own UA ≠ some b → w9.heap[b]? = W7.heap[b]? := fun b hb hn => (grown_block hg (by omega) hn).trans (hB.block b hb)
  have hu9 := (e9 ub hul (fun q => (h.rown q).2.2.2.1 rfl)).trans h.un
  have hh9 := (e9 g hgl (fun q => (h.rown q).1 rfl)).trans h.head
  refine ⟨cell_of_row w9 _ 2 _ 62 (0, 0) hu9, frozen_of_row w9 _ 2 _ 62 hu9, (Array.getElem?_eq_some_iff.1 hu9).1, cell_of_row w9 _ 4 _ 45 (0, 0) hh9, (Array.getElem?_eq_some_iff.1 hh9).1, h.ubg, ?_⟩
  obtain ⟨D, d1, d2, d3⟩ := h.wm
  refine ⟨D, fun v => ?_, d2, d3⟩
  have k1 : Kept W7 (W8.alloc o) (fun b => own UA = some b ∨ b = ub) := Kept.fresh (hB.alloc hB.size o)
  have k2 : Kept (W8.alloc o) w9 (fun b => own UA = some b ∨ b = ub) := Kept.grown hg (fun b e => .inl (.inl (by rw [← own_eq UA (ofU l x.u).length UC]; exact e)))
  have k3 : Kept w9 (w9.setCell ⟨ub, 2, none⟩ v) (fun b => own UA = some b ∨ b = ub) := ⟨rfl, rfl, rfl, by simp, fun b _ hn => heap_setCell_other w9 ⟨ub, 2, none⟩ b v (fun e => hn (.inr e))⟩
  exact Kept.mapH ((k1.trans k2 (fun b q => .inl q)).trans k3 (fun b q => .inl q)) d1 (fun q => q.elim (fun q => (h.rown q).2.1 rfl) (fun q => h.ubw q.symm))
/-- and at the end -/
theorem done (h : Mid w W7 g gd n S cc k jo jo' id l sent m Fd x ub UA UC A c) (hlo : Lo l k) (hk0 : 0 ≤ k) (hxn : x.num = k) (hok : Ok (l ++ [x])) (hsok : SentOk (l ++ [x]) sent) (hxr : x.p.right = true) (hxb : x.p.b < n) (hxa : ∀ d ∈ x.ah, 0 ≤ d) (hl : l.length < 200) (hus : x.u ∉ sent)
    (hu : (x.u = k ∧ x.u ∉ units l) ∨ (x.u ≠ k ∧ x.u ∈ units l)) (h8 : W8 = (W7.alloc (.cells (x.cs A c) 84)).drew) {o : Obj} (hg : (W8.alloc o).grownBy w9 (Value.slice UA (ofU l x.u).length UC).ownBlock)
    {A9 : Option Addr} {c9 : Nat} (ho9 : w9.ownsRow 0 82 1 (.slice A9 ((ofU l x.u).length + 1) c9) ((ofU l x.u).length + 1) (ptrsW m l x.u ++ [ptr W7.heap.size])) (hor : (Value.slice A9 ((ofU l x.u).length + 1) c9).ownBlock = (Value.slice UA (ofU l x.u).length UC).ownBlock ∨ (Value.slice A9 ((ofU l x.u).length + 1) c9).ownBlock = some (W8.alloc o).heap.size)
    {D : DataW Value} (hD : (w9.setCell ⟨ub, 2, none⟩ (.slice A9 ((ofU l x.u).length + 1) c9)).ownsMap Try.prog 3 RV m.gw cc D) (d2 : ∀ z, Maps.has D (.int .i64 z) = true ↔ z ∈ nums l) (d3 : ∀ z ∈ nums l, ∀ q, D.atKey (.int .i64 z) q = .held (ptr (m.wp z)))
    (hD11 : w11.ownsMap Try.prog 3 RV m.gw (cc + 1) (D.put (.int .i64 k) (.held (ptr W7.heap.size)))) (hg11 : (w9.setCell ⟨ub, 2, none⟩ (.slice A9 ((ofU l x.u).length + 1) c9)).grownBy w11 (some m.gw)) :
    Went w w11 (footH g l m Fd) (Eng w11 g n S (cc + 1) (k + 1) jo' id (l ++ [x]) sent) := by
  obtain ⟨_, hul8, hs8, _, hB, hw8⟩ := h.at8 h8
  have hul := (Array.getElem?_eq_some_iff.1 h.un).1
  have hgl := (Array.getElem?_eq_some_iff.1 h.head).1
  have hs7 := h.kk.size
  rw [own_eq, own_eq] at hor
  have e9 : ∀ b, b < W8.heap.size → own UA ≠ some b → w9.heap[b]? = W8.heap[b]? := fun b hb hn => grown_block hg hb hn
  obtain ⟨sl, hsl⟩ : ∃ sl, sl = (.slice A9 ((ofU l x.u).length + 1) c9 : Value) := ⟨_, rfl⟩
  have e11 : ∀ b, b < w9.heap.size → b ≠ ub → b ≠ m.gw → w11.heap[b]? = w9.heap[b]? := fun b hb h1 h2 => (hg11.block b (by simpa using hb) (fun e => h2 (by first | exact Option.some.inj e | exact (Option.some.inj e).symm))).trans (heap_setCell_other w9 ⟨ub, 2, none⟩ b _ h1)
  have hsz9 : W8.heap.size ≤ w9.heap.size := by have := hg.size; simp at this; omega
  have hn9 : own UA ≠ some W7.heap.size := fun q => by have := (h.rown q).2.2.2.2; omega
  have hun9 : w9.heap[ub]? = some (.cells (ucs x.u x.p.b UA (ofU l x.u).length UC false) 62 (0, 0)) := ((e9 ub hul8 (fun q => (h.rown q).2.2.2.1 rfl)).trans (hB.block ub hul)).trans h.un
  have hgw7 := h.wm.lt
  have K711 : Kept W7 w11 (fun b => b = m.gw ∨ b = ub ∨ own UA = some b) := by
    have k1 : Kept W7 (W8.alloc o) (fun b => b = m.gw ∨ b = ub ∨ own UA = some b) := Kept.fresh (hB.alloc hB.size o)
    have k2 : Kept (W8.alloc o) w9 (fun b => b = m.gw ∨ b = ub ∨ own UA = some b) := Kept.grown hg (fun b e => .inl (.inr (.inr (by rw [← own_eq UA (ofU l x.u).length UC]; exact e))))
    have k3 : Kept w9 (w9.setCell ⟨ub, 2, none⟩ (.slice A9 ((ofU l x.u).length + 1) c9)) (fun b => b = m.gw ∨ b = ub ∨ own UA = some b) := ⟨rfl, rfl, rfl, by simp, fun b _ hn => heap_setCell_other w9 ⟨ub, 2, none⟩ b _ (fun e => hn (.inr (.inl e)))⟩
    have k4 : Kept (w9.setCell ⟨ub, 2, none⟩ (.slice A9 ((ofU l x.u).length + 1) c9)) w11 (fun b => b = m.gw ∨ b = ub ∨ own UA = some b) := Kept.grown hg11 (fun b e => .inl (.inl (by first | exact Option.some.inj e | exact (Option.some.inj e).symm)))
    exact ((k1.trans k2 (fun b q => .inl q)).trans k3 (fun b q => .inl q)).trans k4 (fun b q => .inl q)
  obtain ⟨T, hTd⟩ : ∃ T : Nat → Prop, T = fun b => b = g ∨ b = m.gw ∨ b = m.gu ∨ (x.u ∈ units l ∧ (b = m.up x.u ∨ own (m.UA x.u) = some b)) := ⟨_, rfl⟩
  have hT : ∀ b, T b → b = g ∨ b = m.gw ∨ b = m.gu ∨ (x.u ∈ units l ∧ (b = m.up x.u ∨ own (m.UA x.u) = some b)) := fun b q => by rw [hTd] at q; exact q
  have K : Kept w w11 T := by
    rw [hTd]
    refine (h.kk.more (fun b q => .inl (q.elim .inl (fun q => .inr (.inr (.inl q)))))).trans K711 (fun b q => ?_)
    rcases q with q | q | q
    · exact .inl (.inr (.inl q))
    · rcases h.cas with ⟨c1, c2, c3⟩ | ⟨c1, c2, c3⟩
      · exact .inl (.inr (.inr (.inr ⟨c1, .inl (q.trans c2)⟩)))
      · exact .inr (by omega)
    · rcases h.cas with ⟨c1, c2, c3⟩ | ⟨c1, c2, c3⟩
      · exact .inl (.inr (.inr (.inr ⟨c1, .inr (by rw [← c3]; exact q)⟩)))
      · rw [c3] at q; cases q
  have hA9 : ∀ b, own A9 = some b → b ≠ ub ∧ b ≠ m.gw := fun b q => by
    obtain ⟨cs, e⟩ := row_cells ho9 q
    refine ⟨cells_ne e hun9 (by decide), fun e2 => ?_⟩
    subst e2
    rcases hor with q2 | q2
    · exact (h.rown (q2.symm.trans q)).2.1 rfl
    · rw [q] at q2
      have : m.gw = (W8.alloc o).heap.size := by simpa using q2
      simp at this
      omega
  have z0 : w11.heap[g]? = some (.cells (hcs gd (k + 1) jo' id m) 45 (0, 0)) := by
    rw [e11 g (by omega) h.ubg.symm (fun e => h.wm.not_cells h.head e), e9 g (by omega) (fun q => (h.rown q).1 rfl), hB.block g hgl]; exact h.head
  have z1 : PMap w11 m.gw (cc + 1) (nums l ++ [k]) (fset m.wp k W7.heap.size) := by
    exact PMap.put hD d2 d3 hD11 (fun q => by
      obtain ⟨y, hy, e⟩ := mem_nums.1 q
      have := (hlo y hy).2; omega)
  have z2 : PMap w11 m.gu (cc + 1) (units (l ++ [x])) (fset m.up x.u ub) := by
    exact h.um.keep K711 (fun q => by
      rcases q with q | q | q
      · exact h.h.maps q.symm
      · exact h.um.not_cells h.un q.symm
      · exact (h.rown q).2.2.1 rfl)
  have z3 : w11.heap[W7.heap.size]? = some (.cells (x.cs A c) 84 (0, 0)) := by
    rw [e11 W7.heap.size (by omega) (by omega) (by omega), e9 W7.heap.size (by omega) hn9]; exact hw8
  have z4 : w11.ownsRow 0 3 1 (.slice A x.ah.length c) x.ah.length (intsI x.ah) := by
    refine K711.row h.ahr fun b hb q => ?_
    obtain ⟨cs, e⟩ := row_cells h.ahr ((own_eq _ _ _).symm.trans hb)
    rcases q with q | q | q
    · exact h.wm.not_cells e q
    · exact cells_ne e h.un (by decide) q
    · obtain ⟨cs', e'⟩ := row_cells h.row q
      exact cells_ne e e' (by decide) rfl
  have z5 : w11.heap[ub]? = some (.cells (ucs x.u x.p.b A9 ((ofU l x.u).length + 1) c9 false) 62 (0, 0)) := by
    rw [hg11.block ub (by simp; omega) (fun e => h.ubw (by first | exact Option.some.inj e | exact (Option.some.inj e).symm))]
    have := heap_setCell_same w9 ub 2 _ 62 (.slice A9 ((ofU l x.u).length + 1) c9) hun9
    simpa [ucs] using this
  have z6 : w11.ownsRow 0 82 1 (.slice A9 ((ofU l x.u).length + 1) c9) ((ofU l x.u).length + 1) (((ofU l x.u).map fun y => ptr (m.wp y.num)) ++ [ptr W7.heap.size]) := by
    have k3 : Kept w9 (w9.setCell ⟨ub, 2, none⟩ (.slice A9 ((ofU l x.u).length + 1) c9)) (fun b => b = ub) := ⟨rfl, rfl, rfl, by simp, fun b _ hn => heap_setCell_other w9 ⟨ub, 2, none⟩ b _ hn⟩
    have r1 := k3.row ho9 (fun b hb q => (hA9 b ((own_eq _ _ _).symm.trans hb)).1 q)
    exact (Kept.grown (S := fun b => b = m.gw) hg11 (fun b e => .inl (by first | exact Option.some.inj e | exact (Option.some.inj e).symm))).row r1 (fun b hb q => (hA9 b ((own_eq _ _ _).symm.trans hb)).2 q)
  obtain ⟨h1, h2⟩ := h.h.added (jo' := jo') (cc' := cc + 1) (T := T) (w' := w11) hlo hk0 (x := x) hxn hok hsok hxr hxb hxa hl hus (Nat.le_succ _) hu hT K (bw := W7.heap.size) (c := c) (bu := ub) (c2 := c9) (A := A) (A2 := A9) hs7
    (by rcases h.cas with ⟨c1, c2, _⟩ | ⟨_, c2, _⟩; exact .inl ⟨c1, c2⟩; exact .inr c2)
    (by
      rcases hor with q | q
      · rcases h.cas with ⟨c1, _, c3⟩ | ⟨_, _, c3⟩
        · exact .inl ⟨c1, q.trans c3⟩
        · exact .inr (fun b e => by rw [q, c3] at e; cases e)
      · exact .inr (fun b e => by rw [q] at e; have h5 : (W8.alloc o).heap.size = b := (by simpa using e); simp at h5; omega))
    z0 z1 z2 z3 z4 z5 z6
  exact ⟨_, ⟨gd, _, Fd, h1, rfl⟩, K.more (fun b q => by
      rcases hT b q with q | q | q | ⟨q1, q | q⟩
      · exact .inl (.inl q)
      · exact .inl (.inr (.inl q))
      · exact .inl (.inr (.inr (.inl q)))
      · exact .inl (.inr (.inr (.inr (.inl ⟨x.u, q1, .inl q⟩))))
      · exact .inl (.inr (.inr (.inr (.inl ⟨x.u, q1, .inr q⟩))))), h2⟩
end Mid
end Go.Proofs.Ytkldiofleepkfaa.Hd
