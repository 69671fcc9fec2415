/- A row of patches, each on its own block, each behind the one ahead. -/
import Derived.Test.YtegacggkdjgdiaaET
set_option linter.unusedVariables false
set_option linter.unusedSimpArgs false
namespace Go.Proofs.Ytegacggkdjgdiaa
open Go.RowKit

def px (i : Nat) : Pt := ⟨i, 0, ⟨#[120]⟩⟩
def dep (i : Nat) : List Int := if i = 0 then [] else [(i : Int) - 1]
def ch (AC : Nat → Option Addr × Nat) (i : Nat) (f : Bool) : Wr := ⟨i, px i, dep i, (AC i).1, (AC i).2, f⟩
/-- those from d on wait; the first one of them was written, or not -/
def chn (AC : Nat → Option Addr × Nat) (d m : Nat) (f : Bool) : List Wr := (List.range' d (m - d)).map fun i => ch AC i (f && decide (i = d))
theorem length_chn (AC : Nat → Option Addr × Nat) (d m : Nat) (f : Bool) : (chn AC d m f).length = m - d := by simp [chn]
theorem chn_ah (AC : Nat → Option Addr × Nat) {m : Nat} (hm : m < 8) : ahL (chn AC 0 m false) ((dep m).map (depN m)) (px m) = dep m := by
  rcases (show m = 0 ∨ m = 1 ∨ m = 2 ∨ m = 3 ∨ m = 4 ∨ m = 5 ∨ m = 6 ∨ m = 7 by omega) with rfl | rfl | rfl | rfl | rfl | rfl | rfl | rfl <;> rfl
theorem chn_add (AC : Nat → Option Addr × Nat) {m : Nat} (hm : m < 8) {y : Wr} (h : OneOf m (chn AC 0 m false) m ⟨px m, dep m⟩ y) : ∃ AC', chn AC 0 m false ++ [y] = chn AC' 0 (m + 1) false := by
  have e := h.eq
  dsimp only at e
  rw [chn_ah AC hm] at e
  refine ⟨fun i => if i = m then (y.A, y.c) else AC i, ?_⟩
  unfold chn
  rw [Nat.sub_zero, Nat.sub_zero, List.range'_1_concat, List.map_append]
  congr 1
  · apply List.map_congr_left
    intro i hi
    have : i ≠ m := by
      have := (List.mem_range'_1.1 hi).2; omega
    simp [ch, this]
  · rw [e]; simp [ch]
theorem chn_refuses {m : Nat} (hm : m < 8) : refusesE 8 m m [⟨px m, dep m⟩] = 0 := by
  rcases (show m = 0 ∨ m = 1 ∨ m = 2 ∨ m = 3 ∨ m = 4 ∨ m = 5 ∨ m = 6 ∨ m = 7 by omega) with rfl | rfl | rfl | rfl | rfl | rfl | rfl | rfl <;> decide
theorem chn_ready (AC : Nat → Option Addr × Nat) {d : Nat} (hd : d ≤ 8) (f : Bool) {i : Nat} (hi : i < 8) : readyL (chn AC d 8 f) (i : Int) = if i = d then [ch AC d f] else [] := by
  rcases (show d = 0 ∨ d = 1 ∨ d = 2 ∨ d = 3 ∨ d = 4 ∨ d = 5 ∨ d = 6 ∨ d = 7 ∨ d = 8 by omega) with rfl | rfl | rfl | rfl | rfl | rfl | rfl | rfl | rfl <;>
  rcases (show i = 0 ∨ i = 1 ∨ i = 2 ∨ i = 3 ∨ i = 4 ∨ i = 5 ∨ i = 6 ∨ i = 7 by omega) with rfl | rfl | rfl | rfl | rfl | rfl | rfl | rfl <;> cases f <;> rfl
theorem chn_mark (AC : Nat → Option Addr × Nat) {d : Nat} (hd : d < 8) : markL (chn AC d 8 false) [ch AC d false] = chn AC d 8 true := by
  rcases (show d = 0 ∨ d = 1 ∨ d = 2 ∨ d = 3 ∨ d = 4 ∨ d = 5 ∨ d = 6 ∨ d = 7 by omega) with rfl | rfl | rfl | rfl | rfl | rfl | rfl | rfl <;> rfl
theorem chn_left (AC : Nat → Option Addr × Nat) {d : Nat} (hd : d ≤ 8) (f : Bool) : leftL (chn AC d 8 f) = chn AC (if f then d + 1 else d) 8 false := by
  rcases (show d = 0 ∨ d = 1 ∨ d = 2 ∨ d = 3 ∨ d = 4 ∨ d = 5 ∨ d = 6 ∨ d = 7 ∨ d = 8 by omega) with rfl | rfl | rfl | rfl | rfl | rfl | rfl | rfl | rfl <;> cases f <;> rfl
def xS : List Int := put noSec (px 0)
theorem chn_put (AC : Nat → Option Addr × Nat) (d : Nat) (f : Bool) : putL noSec [ch AC d f] = xS := rfl
/-- what stands on the disk -/
def chS (d : Nat) (f : Bool) : Nat → Bk := fun j => if j < d then ⟨xS, [], false⟩ else if j = d ∧ f = true then ⟨noSec, [xS], false⟩ else ⟨noSec, [], false⟩
theorem chS_zero : (fun (j : Nat) => (Bk.mk noSec [] false).flushed) = chS 0 false := by funext j; simp [chS, Bk.flushed, Bk.now]
theorem chS_bad (d : Nat) (f : Bool) (j : Nat) : (chS d f j).b = false := by
  unfold chS
  repeat' split
  all_goals rfl
theorem chn_write (AC : Nat → Option Addr × Nat) {d : Nat} (hd : d ≤ 8) (f : Bool) {i : Nat} (hi : i < 8) :
    wrS (chS d f) (chn AC d 8 f) i = chS d (f || decide (i = d)) ∧ wrL (chS d f) (chn AC d 8 f) i = chn AC d 8 (f || decide (i = d)) := by
  have hr := chn_ready AC hd f hi
  by_cases e : i = d
  · subst e
    rw [if_pos rfl] at hr
    cases f with
    | true =>
      have : wgo (chS i true) (chn AC i 8 true) i = false := by unfold wgo wact; rw [hr]; rfl
      simp [wrS, wrL, this]
    | false =>
      obtain ⟨h1, h2, _, _⟩ := wr_good (S := chS i false) hr rfl (chS_bad _ _ _)
      refine ⟨?_, ?_⟩
      · rw [h1]
        have e1 : (chS i false i).s = noSec := by simp [chS]
        have e2 : (chS i false i).v = [] := by simp [chS]
        rw [e1, e2, chn_put]
        funext j
        by_cases e : j = i
        · subst e; rw [upd_same]; simp [chS]
        · rw [upd_other _ _ e]; simp [chS, e]
      · rw [h2, chn_mark AC hi]; simp
  · rw [if_neg e] at hr
    obtain ⟨h1, h2, _, _⟩ := wr_idle (S := chS d f) hr
    rw [h1, h2]
    simp [e]
theorem chS_flush (d : Nat) (f : Bool) : (fun j => (chS d f j).flushed) = chS (if f then d + 1 else d) false := by
  funext j
  cases f with
  | false =>
    simp only [chS, Bool.false_eq_true, and_false, if_false]
    split <;> rfl
  | true =>
    simp only [chS, and_true, if_true, Bool.false_eq_true, and_false, if_false]
    by_cases h1 : j < d
    · rw [if_pos h1, if_pos (by omega)]; rfl
    · rw [if_neg h1]
      by_cases h2 : j = d
      · rw [if_pos h2, if_pos (by omega)]; rfl
      · rw [if_neg h2, if_neg (by omega)]; rfl
theorem chn_rnd (AC : Nat → Option Addr × Nat) {d : Nat} (hd : d ≤ 8) (f : Bool) : ∀ j, j ≤ 8 → rndS (chS d f) (chn AC d 8 f) j = (chS d (f || decide (d < j)), chn AC d 8 (f || decide (d < j)))
  | 0, _ => by simp [rndS]
  | j + 1, hj => by
    have ih := chn_rnd AC hd f j (by omega)
    unfold rndS
    rw [ih]
    obtain ⟨h1, h2⟩ := chn_write AC hd (f || decide (d < j)) (i := j) (by omega)
    rw [h1, h2]
    have : ((f || decide (d < j)) || decide (j = d)) = (f || decide (d < j + 1)) := by
      rw [Bool.or_assoc]
      congr 1
      rw [← Bool.decide_or]
      exact decide_eq_decide.2 (by omega)
    rw [this]
theorem chn_rou (AC : Nat → Option Addr × Nat) {d : Nat} (hd : d < 8) (f : Bool) : rouS 8 (chS d f) (chn AC d 8 f) = chS (d + 1) false ∧ rouL 8 (chS d f) (chn AC d 8 f) = chn AC (d + 1) 8 false := by
  have h := chn_rnd AC (by omega : d ≤ 8) f 8 (Nat.le_refl _)
  have e : (f || decide (d < 8)) = true := by simp [hd]
  rw [e] at h
  unfold rouS rouL
  rw [h]
  exact ⟨by rw [chS_flush]; rfl, by rw [chn_left AC (by omega)]; rfl⟩
theorem chn_synced (AC : Nat → Option Addr × Nat) : ∀ (n d : Nat), 8 - d = n → d ≤ 8 → ∀ (f : Bool) (S' : Nat → Bk) (l' : List Wr) (e : Int), Synced 8 (chS d f) (chn AC d 8 f) S' l' e → l' = [] ∧ e = 0
  | 0, d, hn, hd, f, S', l', e, h => by
    have hl : chn AC d 8 f = [] := List.eq_nil_of_length_eq_zero (by rw [length_chn]; omega)
    generalize hL : chn AC d 8 f = L at h
    rw [hl] at hL
    subst hL
    cases h with
    | done => exact ⟨rfl, rfl⟩
    | stuck h1 _ => exact absurd rfl h1
    | more h1 _ _ => exact absurd rfl h1
  | n + 1, d, hn, hd, f, S', l', e, h => by
    have hd8 : d < 8 := by omega
    obtain ⟨r1, r2⟩ := chn_rou AC hd8 f
    generalize hL : chn AC d 8 f = L at h
    generalize hS : chS d f = S at h
    rw [hL, hS] at r1 r2
    have hlen := length_chn AC d 8 f
    rw [hL] at hlen
    cases h with
    | done => simp at hlen; omega
    | stuck h1 h2 =>
      rw [r2, length_chn, hlen] at h2
      omega
    | more h1 h2 h3 =>
      rw [r1, r2] at h3
      exact chn_synced AC n (d + 1) (by omega) (by omega) false S' l' e h3
theorem chn_crash (d : Nat) (f : Bool) (pick : List Int) : ∃ t : Nat, ∀ j : Nat, (crashed 8 (chS d f) pick j).s = if j < t then xS else noSec := by
  have hn : ∀ (j : Nat) (s : List Int) (p : Option Int), ((Bk.mk s [] false).left p).s = s := fun j s p => by
    unfold Bk.left
    cases p with
    | none => rfl
    | some p =>
      have : pickAt [] p = none := by unfold pickAt; split <;> simp
      simp [this]
  by_cases hf : f = true ∧ (crashed 8 (chS d f) pick d).s = xS
  · refine ⟨d + 1, fun j => ?_⟩
    by_cases h1 : j = d
    · subst h1; rw [if_pos (by omega)]; exact hf.2
    · unfold crashed
      by_cases h2 : j < d
      · have e1 : chS d f j = ⟨xS, [], false⟩ := by unfold chS; rw [if_pos h2]
        rw [e1, if_pos (show j < d + 1 by omega)]; exact hn j _ _
      · have e1 : chS d f j = ⟨noSec, [], false⟩ := by unfold chS; rw [if_neg h2, if_neg (fun q => h1 q.1)]
        rw [e1, if_neg (show ¬ j < d + 1 by omega)]; exact hn j _ _
  · refine ⟨d, fun j => ?_⟩
    by_cases h1 : j = d
    · subst h1
      rw [if_neg (by omega)]
      cases f with
      | false => unfold crashed chS; simp only [Nat.lt_irrefl, if_false, Bool.false_eq_true, and_false]; exact hn j _ _
      | true =>
        have hne : (crashed 8 (chS j true) pick j).s ≠ xS := fun q => hf ⟨rfl, q⟩
        unfold crashed at hne ⊢
        have e : chS j true j = ⟨noSec, [xS], false⟩ := by simp [chS]
        rw [e] at hne ⊢
        unfold Bk.left at hne ⊢
        cases hp : pick[List.idxOf j (waits 8 (chS j true))]? with
        | none => rfl
        | some p =>
          rw [hp] at hne
          simp only [Option.bind_some] at hne ⊢
          unfold pickAt at hne ⊢
          by_cases h1 : 1 ≤ p
          · rw [if_pos h1] at hne ⊢
            cases hq : (p - 1).toNat with
            | zero => rw [hq] at hne; exact absurd rfl hne
            | succ q => rfl
          · rw [if_neg h1]; rfl
    · unfold crashed
      by_cases h2 : j < d
      · have e1 : chS d f j = ⟨xS, [], false⟩ := by unfold chS; rw [if_pos h2]
        rw [e1, if_pos h2]; exact hn j _ _
      · have e1 : chS d f j = ⟨noSec, [], false⟩ := by unfold chS; rw [if_neg h2, if_neg (fun q => h1 q.1)]
        rw [e1, if_neg h2]; exact hn j _ _
theorem xS_zero : nth xS 0 = 120 := by decide
theorem noSec_zero : nth noSec 0 = 0 := by decide
theorem xS_ok : OkS xS := putL_ok (b := noSec) (l := [ch (fun _ => (none, 0)) 0 false]) ⟨rfl, fun x hx => by rw [noSec, List.mem_replicate] at hx; rw [hx.2]; decide⟩ (fun x hx => by rw [List.mem_singleton] at hx; subst hx; decide)
end Go.Proofs.Ytegacggkdjgdiaa
