/- One more patch, as the law adds it: bytes that are its number, behind those that it names and those that it overlaps. -/
import Derived.Test.YtegacggkdjgdiaaCR
set_option linter.unusedVariables false
set_option linter.unusedSimpArgs false
namespace Go.Proofs.Ytegacggkdjgdiaa
open Go.RowKit

theorem over_cov {p q : Pt} (hp : p.right = true) (hq : q.right = true) (hb : p.b = q.b) {i : Nat} (h1 : cov p i) (h2 : cov q i) : p.over q = true := by
  have hbo : p.both q = true := by simp [Pt.both, hp, hq, hb]
  obtain ⟨p1, p2, p3, p4, p5, p6⟩ := Pt.right_out hp
  obtain ⟨q1, q2, q3, q4, q5, q6⟩ := Pt.right_out hq
  unfold cov at h1 h2
  unfold Pt.over
  rw [hbo, decide_eq_true (by omega), decide_eq_true (by omega)]; rfl
/-- what the law says that it comes behind -/
def behR (L : List Pt) (r : List Nat) (p : Pt) : List Nat := r ++ (List.range L.length).filter fun k => (pN L k).over p
theorem VS.one {L : List Pt} {D : List (List Nat)} {S : Nat → Bk} {l : List Wr} (h : VS (pN L) (Gr.rowN D) L.length S l) (hDL : D.length = L.length) {first : Int} {p : Pt} {r : List Nat} {y : Wr} (hr : ∀ d ∈ r, d < L.length)
    (hy : OneOf first l (L.length : Int) ⟨p, Gr.natsI r⟩ y) (hp : p.right = true) (hmk : ∀ j, j < p.s.size → nth (sb p.s) j = (L.length : Int) + 1) (hD : ∀ n, ∀ d ∈ Gr.rowN D n, d < n) :
    VS (pN (L ++ [p])) (Gr.rowN (D ++ [behR L r p])) (L.length + 1) S (l ++ [y]) := by
  obtain ⟨h1, h2, h3, h4⟩ := hy
  have ep : pN (L ++ [p]) L.length = p := by rw [pN_snoc, if_neg (by omega), if_pos rfl]
  have eP : ∀ k, k < L.length → pN L k = pN (L ++ [p]) k := fun k hk => by rw [pN_snoc, if_pos hk]
  have eD : ∀ k, k < L.length → Gr.rowN D k = Gr.rowN (D ++ [behR L r p]) k := fun k hk => by rw [rowN_snoc, if_pos (by omega)]
  have eDm : Gr.rowN (D ++ [behR L r p]) L.length = behR L r p := by rw [rowN_snoc, if_neg (by omega), if_pos hDL.symm]
  have hb : ∀ d ∈ behR L r p, d < L.length := fun d hd => by
    rcases List.mem_append.1 hd with q | q
    · exact hr d q
    · exact List.mem_range.1 (List.mem_filter.1 q).1
  refine h.add h1 (by rw [h2, ep]) h4 eP eD (by rw [ep]; exact hp) (by rw [ep]; exact hmk) (by rw [eDm]; exact hb) (fun k hk d hd => ?_) (fun x hx e q c1 c2 => ?_) (fun d hd hn => ?_) (fun d hd => ?_)
  · rw [← eD k hk] at hd
    have := hD k d hd; omega
  · rw [eDm]
    rw [ep] at e c2
    rw [← eP x hx] at e c1
    refine List.mem_append_right _ (List.mem_filter.2 ⟨List.mem_range.2 hx, over_cov (h.mark.right x hx) hp e c1 c2⟩)
  · rw [eDm] at hd
    obtain ⟨z, hz, ez⟩ := hasN_iff.1 hn
    rw [h3]
    unfold ahL
    refine List.mem_map.2 ⟨z, List.mem_filter.2 ⟨hz, ?_⟩, ez⟩
    unfold selA
    rcases List.mem_append.1 hd with q | q
    · have : hasI ((Gr.natsI r).map (depN first)) z.num = true := by
        unfold hasI
        rw [List.any_eq_true]
        refine ⟨(d : Int), List.mem_map.2 ⟨(d : Int), List.mem_map.2 ⟨d, q, rfl⟩, ?_⟩, by rw [ez]; simp⟩
        unfold depN
        rw [if_neg (by omega)]
      rw [this]; simp
    · obtain ⟨k, hk, e1, e2⟩ := h.num z hz
      have : k = d := by omega
      subst this
      have hov := (List.mem_filter.1 q).2
      rw [← e2] at hov
      rw [hov]; simp
  · rw [h3] at hd
    obtain ⟨z, hz, rfl⟩ := List.mem_map.1 hd
    obtain ⟨k, hk, e1, _⟩ := h.num z (List.mem_filter.1 hz).1
    omega
end Go.Proofs.Ytegacggkdjgdiaa
