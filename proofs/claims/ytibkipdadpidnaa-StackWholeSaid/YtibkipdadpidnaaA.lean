/- A block with patches, said of each byte by itself: with some alone, taken back from above, settled, squashed. -/
namespace Go.Proofs.Ytibkipdadpidnaa
/-- a patch as what it does to a block: which bytes, and what stands there then -/
structure Wr where
  n : Int
  dom : Nat → Bool
  val : Nat → Int
namespace Wr
def put (f : Nat → Int) (p : Wr) : Nat → Int := fun i => if p.dom i = true then p.val i else f i
/-- what stood under p, put back -/
def back (f g : Nat → Int) (p : Wr) : Nat → Int := fun i => if p.dom i = true then f i else g i
theorem put_at {f g : Nat → Int} {p : Wr} {i : Nat} (h : f i = g i) : put f p i = put g p i := by unfold put; split <;> simp [h]
/-- those of some alone, one above the other -/
def onlyW (k : Wr → Bool) (f : Nat → Int) : List Wr → Nat → Int
  | [] => f
  | p :: r => onlyW k (if k p = true then put f p else f) r
/-- all, and those that do not stay taken back, the uppermost first -/
def rollW (k : Wr → Bool) (f : Nat → Int) : List Wr → Nat → Int
  | [] => f
  | p :: r => if k p = true then rollW k (put f p) r else back f (rollW k (put f p) r) p
/-- none that stays writes a byte of one below it that does not -/
def Closed (k : Wr → Bool) : List Wr → Prop
  | [] => True
  | p :: r => (k p = false → ∀ q ∈ r, k q = true → ∀ i, p.dom i = true → q.dom i = false) ∧ Closed k r
theorem only_at {k : Wr → Bool} : ∀ {l : List Wr} {f g : Nat → Int} {i : Nat}, f i = g i → onlyW k f l i = onlyW k g l i
  | [], _, _, _, h => h
  | p :: r, f, g, i, h => by
    unfold onlyW
    refine only_at ?_
    by_cases q : k p = true
    · rw [if_pos q, if_pos q]; exact put_at h
    · rw [if_neg q, if_neg q]; exact h
theorem only_free {k : Wr → Bool} : ∀ {l : List Wr} {f : Nat → Int} {i : Nat}, (∀ q ∈ l, k q = true → q.dom i = false) → onlyW k f l i = f i
  | [], _, _, _ => rfl
  | p :: r, f, i, h => by
    unfold onlyW
    rw [only_free (fun q hq => h q (List.mem_cons_of_mem _ hq))]
    by_cases q : k p = true
    · rw [if_pos q]
      unfold put
      rw [h p (List.mem_cons_self ..) q, if_neg (by decide)]
    · rw [if_neg q]
/-- taking back what does not stay leaves just what stays -/
theorem roll_only {k : Wr → Bool} : ∀ {l : List Wr} {f : Nat → Int}, Closed k l → rollW k f l = onlyW k f l
  | [], _, _ => rfl
  | p :: r, f, h => by
    funext i
    unfold rollW onlyW
    rw [roll_only h.2]
    by_cases q : k p = true
    · rw [if_pos q, if_pos q]
    · rw [if_neg q, if_neg q]
      unfold back
      by_cases d : p.dom i = true
      · rw [if_pos d]
        exact (only_free (fun z hz hk => h.1 (by simpa using q) z hz hk i d)).symm
      · rw [if_neg d]
        refine only_at ?_
        unfold put
        rw [if_neg d]
/-- what is settled goes into the base; the others stand above it: no byte changes -/
theorem settle_all {k : Wr → Bool} : ∀ {l : List Wr} {f : Nat → Int}, Closed k l → onlyW (fun _ => true) (onlyW k f l) (l.filter fun p => !(k p)) = onlyW (fun _ => true) f l := by
  have key : ∀ (l : List Wr) (f g : Nat → Int) (i : Nat), (∀ q ∈ l, k q = true → q.dom i = false) → f i = g i → onlyW (fun _ => true) f (l.filter fun p => !(k p)) i = onlyW (fun _ => true) g l i := by
    intro l
    induction l with
    | nil => intro f g i _ h; exact h
    | cons p r ih =>
      intro f g i hno h
      by_cases q : k p = true
      · rw [List.filter_cons_of_neg (by simp [q])]
        show _ = onlyW (fun _ => true) (if true = true then put g p else g) r i
        rw [if_pos rfl]
        refine ih _ _ i (fun z hz => hno z (List.mem_cons_of_mem _ hz)) ?_
        unfold put
        rw [hno p (List.mem_cons_self ..) q, if_neg (by decide)]
        exact h
      · rw [List.filter_cons_of_pos (by simp [q])]
        show onlyW (fun _ => true) (if true = true then put f p else f) _ i = onlyW (fun _ => true) (if true = true then put g p else g) r i
        rw [if_pos rfl, if_pos rfl]
        exact ih _ _ i (fun z hz => hno z (List.mem_cons_of_mem _ hz)) (put_at h)
  intro l
  induction l with
  | nil => intro f _; rfl
  | cons p r ih =>
    intro f hc
    by_cases q : k p = true
    · rw [List.filter_cons_of_neg (by simp [q])]
      show onlyW (fun _ => true) (onlyW k (if k p = true then put f p else f) r) _ = onlyW (fun _ => true) (if true = true then put f p else f) r
      rw [if_pos q, if_pos rfl]
      exact ih hc.2
    · rw [List.filter_cons_of_pos (by simp [q])]
      show onlyW (fun _ => true) (if true = true then put (onlyW k (if k p = true then put f p else f) r) p else _) _ = onlyW (fun _ => true) (if true = true then put f p else f) r
      rw [if_neg q, if_pos rfl, if_pos rfl, ← ih hc.2]
      funext i
      by_cases d : p.dom i = true
      · have hno : ∀ z ∈ r, k z = true → z.dom i = false := fun z hz hk => hc.1 (by simpa using q) z hz hk i d
        refine (key r _ (put f p) i hno ?_).trans (key r _ (put f p) i hno ?_).symm
        · unfold put; rw [if_pos d, if_pos d]
        · exact only_free hno
      · refine only_at ?_
        unfold put
        rw [if_neg d]
        refine only_at ?_
        rw [if_neg d]
/-- one patch moved down past those that write none of its bytes -/
theorem down {p : Wr} : ∀ {l : List Wr} {f : Nat → Int}, (∀ q ∈ l, ∀ i, p.dom i = true → q.dom i = false) → onlyW (fun _ => true) f (l ++ [p]) = onlyW (fun _ => true) f (p :: l)
  | [], _, _ => rfl
  | q :: r, f, h => by
    have hr : ∀ z ∈ r, ∀ i, p.dom i = true → z.dom i = false := fun z hz => h z (List.mem_cons_of_mem _ hz)
    show onlyW (fun _ => true) (if true = true then put f q else f) (r ++ [p]) = onlyW (fun _ => true) (if true = true then put (if true = true then put f p else f) q else _) r
    rw [if_pos rfl, if_pos rfl, if_pos rfl, down hr]
    show onlyW (fun _ => true) (if true = true then put (put f q) p else _) r = _
    rw [if_pos rfl]
    congr 1
    funext i
    unfold put
    by_cases d : p.dom i = true
    · rw [if_pos d, h q (List.mem_cons_self ..) i d, if_neg (by decide), if_pos d]
    · rw [if_neg d, if_neg d]
theorem only_append {k : Wr → Bool} : ∀ {l m : List Wr} {f : Nat → Int}, onlyW k f (l ++ m) = onlyW k (onlyW k f l) m
  | [], _, _ => rfl
  | p :: r, m, f => only_append (l := r) (m := m) (f := if k p = true then put f p else f)
/-- two made one in the place of the lower, where the upper writes no byte of those between -/
theorem squash {a b j : Wr} {l m r : List Wr} {f : Nat → Int} (h : ∀ q ∈ m, ∀ i, b.dom i = true → q.dom i = false) (hj : ∀ g, put g j = put (put g a) b) :
    onlyW (fun _ => true) f (l ++ (a :: m) ++ (b :: r)) = onlyW (fun _ => true) f (l ++ (j :: m) ++ r) := by
  have e : l ++ (a :: m) ++ (b :: r) = (l ++ [a]) ++ ((m ++ [b]) ++ r) := by simp
  have e2 : l ++ (j :: m) ++ r = (l ++ [j]) ++ (m ++ r) := by simp
  have h1 : onlyW (fun _ => true) f (l ++ [a]) = put (onlyW (fun _ => true) f l) a := by rw [only_append]; rfl
  have h2 : onlyW (fun _ => true) f (l ++ [j]) = put (onlyW (fun _ => true) f l) j := by rw [only_append]; rfl
  rw [e, e2, only_append, only_append (l := l ++ [j]), h1, h2, hj, only_append, down h, only_append (l := m)]
  rfl
end Wr
end Go.Proofs.Ytibkipdadpidnaa
