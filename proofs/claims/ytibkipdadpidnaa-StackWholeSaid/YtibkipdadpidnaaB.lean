/- A block's patches as lists: with some alone, taken back, settled, squashed; what both stacks are. -/
import Derived.Test.YtibkipdadpidnaaA
import Derived.Test.YtibkipdadpidnaaPS
set_option linter.unusedVariables false
set_option linter.unusedSimpArgs false
namespace Go.Proofs.Ytibkipdadpidnaa
open Pat (Pt AllB undoP nth)
/-- a patch that is on: its number, and it -/
structure On where
  n : Int
  p : Pt
def onn (l : List On) (k : Nat) : On := l.getD k ⟨0, Pat.zeroP⟩
theorem onn_lt {l : List On} {k : Nat} (h : k < l.length) : onn l k = l[k] := by
  unfold onn; rw [List.getD_eq_getElem?_getD, List.getElem?_eq_getElem h]; rfl
theorem onn_mem {l : List On} {k : Nat} (h : k < l.length) : onn l k ∈ l := by rw [onn_lt h]; exact List.getElem_mem h
theorem take_onn {l : List On} {k : Nat} (h : k < l.length) : l.take (k + 1) = l.take k ++ [onn l k] := by
  rw [List.take_succ_eq_append_getElem h, onn_lt h]
/-- the bytes with those of some alone -/
def withL (k : Int → Bool) : List Int → List On → List Int
  | f, [] => f
  | f, x :: r => withL k (if k x.n = true then Pat.put f x.p else f) r
/-- all laid, then those that do not stay taken back, the uppermost first -/
def rollL (k : Int → Bool) : List Int → List On → List Int
  | f, [] => f
  | f, x :: r => if k x.n = true then rollL k (Pat.put f x.p) r else Pat.put (rollL k (Pat.put f x.p) r) (undoP f x.p)
def Rights (l : List On) : Prop := ∀ x ∈ l, x.p.right = true
theorem Rights.tail {x : On} {r : List On} (h : Rights (x :: r)) : Rights r := fun y hy => h y (List.mem_cons_of_mem _ hy)
theorem Rights.head {x : On} {r : List On} (h : Rights (x :: r)) : x.p.right = true := h x (List.mem_cons_self ..)
theorem withL_append {k : Int → Bool} : ∀ {l m : List On} {f : List Int}, withL k f (l ++ m) = withL k (withL k f l) m
  | [], _, _ => rfl
  | _ :: r, _, _ => by show withL k _ (r ++ _) = withL k (withL k _ r) _; exact withL_append
theorem withL_len {k : Int → Bool} : ∀ {l : List On} {f : List Int}, Rights l → f.length = 32 → (withL k f l).length = 32
  | [], _, _, h => h
  | x :: r, f, hr, h => by
    unfold withL
    refine withL_len hr.tail ?_
    by_cases q : k x.n = true
    · rw [if_pos q]; exact Pat.length_put hr.head h
    · rw [if_neg q]; exact h
theorem withL_all {k : Int → Bool} : ∀ {l : List On} {f : List Int}, AllB f → AllB (withL k f l)
  | [], _, h => h
  | x :: r, f, h => by
    unfold withL
    refine withL_all ?_
    by_cases q : k x.n = true
    · rw [if_pos q]; exact Pat.put_all h _
    · rw [if_neg q]; exact h
theorem rollL_len {k : Int → Bool} : ∀ {l : List On} {f : List Int}, Rights l → f.length = 32 → (rollL k f l).length = 32
  | [], _, _, h => h
  | x :: r, f, hr, h => by
    have hp := Pat.length_put hr.head h
    unfold rollL
    by_cases q : k x.n = true
    · rw [if_pos q]; exact rollL_len hr.tail hp
    · rw [if_neg q]; exact Pat.length_put (Pat.undo_right h hr.head) (rollL_len hr.tail hp)
theorem rollL_all {k : Int → Bool} : ∀ {l : List On} {f : List Int}, AllB f → AllB (rollL k f l)
  | [], _, h => h
  | x :: r, f, h => by
    unfold rollL
    by_cases q : k x.n = true
    · rw [if_pos q]; exact rollL_all (Pat.put_all h _)
    · rw [if_neg q]; exact Pat.put_all (rollL_all (Pat.put_all h _)) _
theorem with_none {f : List Int} : ∀ {l : List On}, withL (fun _ => false) f l = f
  | [] => rfl
  | x :: r => by unfold withL; rw [if_neg (by decide)]; exact with_none
theorem with_congr {k k' : Int → Bool} : ∀ {l : List On} {f : List Int}, (∀ x ∈ l, k x.n = k' x.n) → withL k f l = withL k' f l
  | [], _, _ => rfl
  | x :: r, f, h => by unfold withL; rw [h x (List.mem_cons_self ..)]; exact with_congr (fun y hy => h y (List.mem_cons_of_mem _ hy))
/-- only those of some are looked at -/
theorem with_filter {k : Int → Bool} : ∀ {l : List On} {f : List Int}, withL k f l = withL (fun _ => true) f (l.filter fun x => k x.n)
  | [], _ => rfl
  | x :: r, f => by
    by_cases q : k x.n = true
    · rw [List.filter_cons_of_pos (p := fun x : On => k x.n) q]
      show withL k (if k x.n = true then Pat.put f x.p else f) r = withL _ (if true = true then Pat.put f x.p else f) _
      rw [if_pos q, if_pos rfl]; exact with_filter
    · rw [List.filter_cons_of_neg (p := fun x : On => k x.n) (by simpa using q)]
      show withL k (if k x.n = true then Pat.put f x.p else f) r = _
      rw [if_neg q]; exact with_filter
/-- a patch said of each byte -/
def wr (x : On) : Wr := ⟨x.n, fun i => decide (x.p.o.toNat ≤ i) && decide (i < x.p.o.toNat + x.p.s.size), fun i => nth (Pat.sb x.p.s) (i - x.p.o.toNat)⟩
theorem wr_put {x : On} {f : List Int} (hp : x.p.right = true) (hl : f.length = 32) : nth (Pat.put f x.p) = Wr.put (nth f) (wr x) := by
  funext i
  rw [Pat.nth_put hp hl]
  unfold Wr.put wr
  by_cases h : x.p.o.toNat ≤ i ∧ i < x.p.o.toNat + x.p.s.size
  · rw [if_pos h, if_pos (by simpa using h)]
  · rw [if_neg h, if_neg (by simpa using h)]
theorem wr_back {x : On} {f g : List Int} (ha : AllB f) (hp : x.p.right = true) (hl : f.length = 32) (hg : g.length = 32) : nth (Pat.put g (undoP f x.p)) = Wr.back (nth f) (nth g) (wr x) := by
  funext i
  rw [Pat.nth_put (Pat.undo_right hl hp) hg]
  have ⟨h0, h1, h2, h3, h4, h5⟩ := Pat.Pt.right_out hp
  have e1 : (undoP f x.p).o.toNat = x.p.o.toNat := by show (x.p.o.toNat : Int).toNat = _; omega
  have e2 : (undoP f x.p).s.size = x.p.s.size := by
    rw [← Pat.length_sb, Pat.undo_sb ha, Pat.length_part _ _ _ (by omega)]; omega
  rw [e1, e2, Pat.undo_sb ha]
  unfold Wr.back wr
  by_cases h : x.p.o.toNat ≤ i ∧ i < x.p.o.toNat + x.p.s.size
  · rw [if_pos h, if_pos (by simpa using h), Pat.nth_part _ _ _ _ (by omega)]
    congr 1; omega
  · rw [if_neg h, if_neg (by simpa using h)]
theorem nth_with {k : Int → Bool} : ∀ {l : List On} {f : List Int}, Rights l → f.length = 32 → nth (withL k f l) = Wr.onlyW (fun q => k q.n) (nth f) (l.map wr)
  | [], _, _, _ => rfl
  | x :: r, f, hr, h => by
    unfold withL
    show _ = Wr.onlyW _ (if k x.n = true then Wr.put (nth f) (wr x) else nth f) (r.map wr)
    by_cases q : k x.n = true
    · rw [if_pos q, if_pos q, nth_with hr.tail (Pat.length_put hr.head h), wr_put hr.head h]
    · rw [if_neg q, if_neg q, nth_with hr.tail h]
theorem nth_roll {k : Int → Bool} : ∀ {l : List On} {f : List Int}, Rights l → AllB f → f.length = 32 → nth (rollL k f l) = Wr.rollW (fun q => k q.n) (nth f) (l.map wr)
  | [], _, _, _, _ => rfl
  | x :: r, f, hr, ha, h => by
    have hp := Pat.length_put hr.head h
    unfold rollL
    show _ = (if k x.n = true then Wr.rollW _ (Wr.put (nth f) (wr x)) (r.map wr) else Wr.back (nth f) (Wr.rollW _ (Wr.put (nth f) (wr x)) (r.map wr)) (wr x))
    by_cases q : k x.n = true
    · rw [if_pos q, if_pos q, nth_roll hr.tail (Pat.put_all ha _) hp, wr_put hr.head h]
    · rw [if_neg q, if_neg q, wr_back ha hr.head h (rollL_len hr.tail hp), nth_roll hr.tail (Pat.put_all ha _) hp, wr_put hr.head h]
/-- do two write the same byte? -/
def meetP (a b : Pt) : Bool := decide (a.o < b.o + b.s.size) && decide (b.o < a.o + a.s.size)
theorem meet_symm (a b : Pt) : meetP a b = meetP b a := by unfold meetP; rw [Bool.and_comm]
theorem meet_not {a b : Pt} (ha : a.right = true) (hb : b.right = true) (h : meetP a b = false) (n m : Int) : ∀ i, (wr ⟨n, a⟩).dom i = true → (wr ⟨m, b⟩).dom i = false := by
  intro i hi
  have ⟨_, _, a2, a3, a4, _⟩ := Pat.Pt.right_out ha
  have ⟨_, _, b2, b3, b4, _⟩ := Pat.Pt.right_out hb
  simp only [wr, Bool.and_eq_true, decide_eq_true_eq] at hi
  simp only [meetP, Bool.and_eq_false_iff, decide_eq_false_iff_not] at h
  simp only [wr, Bool.and_eq_false_iff, decide_eq_false_iff_not]
  omega
/-- the document's meet, the program's meets -/
theorem over_meet {a b : Pt} (ha : a.right = true) (hb : b.right = true) : a.over ⟨a.b, b.o, b.s⟩ = meetP a b := by
  have ⟨a0, a1, a2, a3, a4, _⟩ := Pat.Pt.right_out ha
  have ⟨b0, b1, b2, b3, b4, b5⟩ := Pat.Pt.right_out hb
  have : a.both ⟨a.b, b.o, b.s⟩ = true := by
    unfold Pat.Pt.both
    rw [ha, show (⟨a.b, b.o, b.s⟩ : Pt).right = true from Pat.Pt.right_in ⟨a0, a1, b2, b3, b4, b5⟩]
    simp
  unfold Pat.Pt.over meetP
  rw [this, Bool.true_and]
/-- none that stays writes a byte of one below it that does not -/
def ClosedL (k : Int → Bool) (l : List On) : Prop := l.Pairwise fun x y => k x.n = false → k y.n = true → meetP x.p y.p = false
theorem ClosedL.wr {k : Int → Bool} : ∀ {l : List On}, Rights l → ClosedL k l → Wr.Closed (fun q => k q.n) (l.map wr)
  | [], _, _ => trivial
  | x :: r, hr, h => by
    obtain ⟨h1, h2⟩ := List.pairwise_cons.1 h
    refine ⟨fun hk q hq hk2 i hi => ?_, ClosedL.wr hr.tail h2⟩
    obtain ⟨y, hy, rfl⟩ := List.mem_map.1 hq
    exact meet_not hr.head (hr.tail y hy) (h1 y hy hk hk2) x.n y.n i hi
theorem roll_with {k : Int → Bool} {l : List On} {f : List Int} (hr : Rights l) (ha : AllB f) (h : f.length = 32) (hc : ClosedL k l) : rollL k f l = withL k f l := by
  refine Pat.ext_nth (by rw [rollL_len hr h, withL_len hr h]) (fun i _ => ?_)
  rw [nth_roll hr ha h, nth_with hr h, Wr.roll_only (hc.wr hr)]
theorem Rights.filter {l : List On} (h : Rights l) (k : On → Bool) : Rights (l.filter k) := fun x hx => h x (List.mem_filter.1 hx).1
/-- what is settled goes into the base: no byte changes -/
theorem settle_with {k : Int → Bool} {l : List On} {f : List Int} (hr : Rights l) (h : f.length = 32) (hc : ClosedL k l) :
    withL (fun _ => true) (withL k f l) (l.filter fun x => !(k x.n)) = withL (fun _ => true) f l := by
  refine Pat.ext_nth (by rw [withL_len (hr.filter _) (withL_len hr h), withL_len hr h]) (fun i _ => ?_)
  rw [nth_with (hr.filter _) (withL_len hr h), nth_with hr h, nth_with hr h]
  have : (l.filter fun x => !(k x.n)).map wr = (l.map wr).filter fun q => !(k q.n) := by
    rw [List.filter_map]; rfl
  rw [this]
  exact congrFun (Wr.settle_all (hc.wr hr)) i
/-- two made one in the place of the lower, where the upper meets none between -/
theorem squash_with {a b j : On} {l m r : List On} {f : List Int} (hr : Rights (l ++ (a :: m) ++ (b :: r))) (h : f.length = 32) (hm : ∀ q ∈ m, meetP b.p q.p = false) (hj : a.p.apart ⟨a.p.b, b.p.o, b.p.s⟩ = false) (ej : j.p = Pat.joinP a.p ⟨a.p.b, b.p.o, b.p.s⟩) :
    withL (fun _ => true) f (l ++ (j :: m) ++ r) = withL (fun _ => true) f (l ++ (a :: m) ++ (b :: r)) := by
  have hj1 : j.p.right = true := by rw [ej]; exact Pat.joinP_right hj
  have hr' : Rights (l ++ (j :: m) ++ r) := fun x hx => by
    rcases List.mem_append.1 hx with hx | hx
    · rcases List.mem_append.1 hx with hx | hx
      · exact hr x (List.mem_append_left _ (List.mem_append_left _ hx))
      · rcases List.mem_cons.1 hx with rfl | hx
        · exact hj1
        · exact hr x (List.mem_append_left _ (List.mem_append_right _ (List.mem_cons_of_mem _ hx)))
    · exact hr x (List.mem_append_right _ (List.mem_cons_of_mem _ hx))
  have hrb : b.p.right = true := hr b (List.mem_append_right _ (List.mem_cons_self ..))
  have hra : a.p.right = true := hr a (List.mem_append_left _ (List.mem_append_right _ (List.mem_cons_self ..)))
  refine Pat.ext_nth (by rw [withL_len hr' h, withL_len hr h]) (fun i _ => ?_)
  rw [nth_with hr' h, nth_with hr h]
  have key : ∀ g : List Int, g.length = 32 → Wr.put (nth g) (wr j) = Wr.put (Wr.put (nth g) (wr a)) (wr b) := fun g hg => by
    rw [← wr_put hj1 hg, ej, Pat.put_join hj hg, show Pat.put (Pat.put g a.p) ⟨a.p.b, b.p.o, b.p.s⟩ = Pat.put (Pat.put g a.p) b.p from rfl, wr_put (x := b) hrb (Pat.length_put hra hg), wr_put hra hg]
  have e1 : (l ++ (j :: m) ++ r).map wr = l.map wr ++ (wr j :: m.map wr) ++ r.map wr := by simp
  have e2 : (l ++ (a :: m) ++ (b :: r)).map wr = l.map wr ++ (wr a :: m.map wr) ++ (wr b :: r.map wr) := by simp
  rw [e1, e2]
  have hl : Rights l := fun x hx => hr x (List.mem_append_left _ (List.mem_append_left _ hx))
  have hsq := Wr.squash (a := wr a) (b := wr b) (j := wr j) (l := l.map wr) (m := m.map wr) (r := r.map wr) (f := nth f)
    (fun q hq i hi => by obtain ⟨y, hy, rfl⟩ := List.mem_map.1 hq; exact meet_not hrb (hr y (List.mem_append_left _ (List.mem_append_right _ (List.mem_cons_of_mem _ hy)))) (hm y hy) b.n y.n i hi)
  -- the law asks it of each function: only those of 32 bytes are met
  have e3 : l.map wr ++ (wr a :: m.map wr) ++ (wr b :: r.map wr) = (l.map wr ++ [wr a]) ++ ((m.map wr ++ [wr b]) ++ r.map wr) := by simp
  have e4 : l.map wr ++ (wr j :: m.map wr) ++ r.map wr = (l.map wr ++ [wr j]) ++ (m.map wr ++ r.map wr) := by simp
  have a1 : Wr.onlyW (fun _ => true) (nth f) (l.map wr ++ [wr a]) = Wr.put (nth (withL (fun _ => true) f l)) (wr a) := by
    rw [Wr.only_append, nth_with hl h]; rfl
  have a2 : Wr.onlyW (fun _ => true) (nth f) (l.map wr ++ [wr j]) = Wr.put (nth (withL (fun _ => true) f l)) (wr j) := by
    rw [Wr.only_append, nth_with hl h]; rfl
  rw [e3, e4, Wr.only_append, Wr.only_append (l := l.map wr ++ [wr a]), a1, a2, key _ (withL_len hl h), Wr.only_append (l := m.map wr ++ [wr b]),
    Wr.down (fun q hq i hi => by obtain ⟨y, hy, rfl⟩ := List.mem_map.1 hq; exact meet_not hrb (hr y (List.mem_append_left _ (List.mem_append_right _ (List.mem_cons_of_mem _ hy)))) (hm y hy) b.n y.n i hi), Wr.only_append (l := m.map wr)]
  rfl
end Go.Proofs.Ytibkipdadpidnaa
