/- Patches that are written together, plain: the patches of units, in order; a block behind them. -/
import Derived.Test.YtkldiofleepkfaaHHB
set_option linter.unusedVariables false
set_option linter.unusedSimpArgs false
namespace Go.Proofs.Ytkldiofleepkfaa.Hd
theorem rise_eq {a b : List Hw} (ha : Asc a) (hb : Asc b) (h : ∀ x, x ∈ a ↔ x ∈ b) : a = b := by
  have hnd : ∀ {c : List Hw}, Asc c → c.Nodup := fun {c} hc => by unfold Asc at hc; exact hc.imp (fun {x y} h e => by rw [e] at h; omega)
  have hp : a.Perm b := (List.perm_ext_iff_of_nodup (hnd ha) (hnd hb)).2 h
  exact hp.eq_of_pairwise (le := fun (x y : Hw) => x.num < y.num) (fun x y _ _ (h1 : x.num < y.num) (h2 : y.num < x.num) => absurd h1 (by omega)) ha hb
/-- the patches of some units, unit by unit -/
def setU (l : List Hw) (T : List Int) : List Hw := T.flatMap (ofU l)
theorem mem_setU {l : List Hw} {T : List Int} {x : Hw} : x ∈ setU l T ↔ x ∈ l ∧ x.u ∈ T := by
  unfold setU
  rw [List.mem_flatMap]
  constructor
  · rintro ⟨u, hu, hx⟩
    obtain ⟨h1, h2⟩ := mem_ofU.1 hx
    exact ⟨h1, by rw [h2]; exact hu⟩
  · rintro ⟨h1, h2⟩
    exact ⟨x.u, h2, mem_ofU.2 ⟨h1, rfl⟩⟩
theorem blk_of {l : List Hw} (h : Ok l) {x : Hw} (hx : x ∈ l) {b : Int} : x.u ∈ onU l b ↔ x.p.b = b := by
  obtain ⟨y, hy, f1, f2, f3⟩ := h.head x hx
  rw [mem_onU]
  constructor
  · rintro ⟨z, hz, e1, e2, e3⟩
    have : y = z := h.asc.inj hy hz (by omega)
    rw [← f3, this, e3]
  · intro e
    exact ⟨y, hy, f1, f2, by omega⟩
theorem setU_asc {l : List Hw} (h : Ok l) {b : Int} {T : List Int} (hT : T.Pairwise (· < ·)) (hon : ∀ u ∈ T, u ∈ onU l b) : Asc (setU l T) := by
  unfold Asc setU
  rw [List.pairwise_flatMap]
  refine ⟨fun u _ => h.asc.filter _, List.Pairwise.imp_of_mem (fun {u v} hu hv hlt x hx y hy => ?_) hT⟩
  obtain ⟨x1, x2⟩ := mem_ofU.1 hx
  obtain ⟨y1, y2⟩ := mem_ofU.1 hy
  refine h.last x x1 y y1 ?_ (by omega)
  rw [(blk_of h x1).1 (by rw [x2]; exact hon u hu), (blk_of h y1).1 (by rw [y2]; exact hon v hv)]
theorem setU_filter {l : List Hw} (h : Ok l) {b : Int} {T : List Int} (hT : T.Pairwise (· < ·)) (hon : ∀ u ∈ T, u ∈ onU l b) : setU l T = l.filter fun x => decide (x.u ∈ T) :=
  rise_eq (setU_asc h hT hon) (h.asc.filter _) fun x => by rw [mem_setU]; simp
theorem setU_on {l : List Hw} (h : Ok l) (b : Int) : setU l (onU l b) = l.filter fun x => x.p.b == b := by
  rw [setU_filter h (onU_rises h.asc b) (fun _ q => q)]
  apply List.filter_congr
  intro x hx
  by_cases e : x.p.b = b
  · rw [decide_eq_true ((blk_of h hx).2 e)]; simp [e]
  · rw [decide_eq_false (fun q => e ((blk_of h hx).1 q))]; simp [e]
theorem keepU_rise {l : List Hw} : ∀ (us kept : List Int), (kept ++ us).Pairwise (· < ·) → (keepU l kept us).Pairwise (· < ·)
  | [], kept, h => by simpa [keepU] using h
  | v :: r, kept, h => by
    unfold keepU
    refine keepU_rise r _ ?_
    split
    · rw [List.append_assoc]; exact h
    · exact h.sublist (List.Sublist.append (List.Sublist.refl _) (List.sublist_cons_self _ _))
theorem ready_rise {l : List Hw} (h : Ok l) (b : Int) : (readyU l b).Pairwise (· < ·) := keepU_rise _ _ (by rw [List.nil_append]; exact onU_rises h.asc b)
theorem setU_ready {l : List Hw} (h : Ok l) (b : Int) : setU l (readyU l b) = l.filter fun x => decide (x.u ∈ readyU l b) := setU_filter h (ready_rise h b) (fun _ q => ready_on q)
theorem setU_len {l : List Hw} (h : Ok l) {b : Int} {T : List Int} (hT : T.Pairwise (· < ·)) (hon : ∀ u ∈ T, u ∈ onU l b) : (setU l T).length ≤ l.length := by
  rw [setU_filter h hT hon]; exact List.length_filter_le _ _
theorem on_len {l : List Hw} (b : Int) : (onU l b).length ≤ l.length := by
  unfold onU heads
  rw [List.length_map]
  exact Nat.le_trans (List.length_filter_le _ _) (List.length_filter_le _ _)
def ptsH (l : List Hw) : List Pt := l.map (·.p)
/-- a block's bytes behind patches -/
def putH (b : List Int) (l : List Hw) : List Int := (ptsH l).foldl put b
end Go.Proofs.Ytkldiofleepkfaa.Hd
