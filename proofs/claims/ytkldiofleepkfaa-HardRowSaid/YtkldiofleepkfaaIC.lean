/- Write of any block, Flush and Sync of an engine that writes together. -/
import Derived.Test.YtkldiofleepkfaaIB
set_option linter.unusedVariables false
set_option linter.unusedSimpArgs false
namespace Go.Proofs.Ytkldiofleepkfaa.Hd
open Go.RowKit
open Go.Maps (Keyed)
/-- would a Write of a block send a unit more -/
def wact (s : Hs) (i : Nat) : Bool := (readyU s.l (i : Int)).any fun u => !s.sent.contains u
def wgo (S : Nat → Bk) (s : Hs) (i : Nat) : Bool := wact s i && !(S i).b
/-- the disk, what it is besides, the number and the error of a Write -/
def wrS (S : Nat → Bk) (s : Hs) (i : Nat) : Nat → Bk := if wgo S s i then upd S i ⟨(S i).s, (S i).v ++ [putH (S i).s (setU s.l (readyU s.l (i : Int)))], (S i).b⟩ else S
def wrH (S : Nat → Bk) (s : Hs) (i : Nat) : Hs := if wgo S s i then { s with sent := s.sent ++ readyU s.l (i : Int) } else s
def wrN (S : Nat → Bk) (s : Hs) (i : Nat) : Int := if wgo S s i then ((setU s.l (readyU s.l (i : Int))).length : Int) else 0
def wrE (S : Nat → Bk) (s : Hs) (i : Nat) : Int := if wact s i && (S i).b then 10 else 0
theorem wrH_k (S : Nat → Bk) (s : Hs) (i : Nat) : (wrH S s i).k = s.k := by unfold wrH; split <;> rfl
theorem wrH_l (S : Nat → Bk) (s : Hs) (i : Nat) : (wrH S s i).l = s.l := by unfold wrH; split <;> rfl
theorem wrH_cnt {S : Nat → Bk} {s : Hs} {i : Nat} (h : s.Cnt) : (wrH S s i).Cnt := by unfold wrH; split; exact ⟨h.j0, h.i0, h.k0, h.le⟩; exact h
/-- behind a Flush -/
def flH (s : Hs) : Hs := { s with l := lessU s.l s.sent, sent := [] }
theorem flH_cnt {s : Hs} (h : s.Cnt) : (flH s).Cnt := ⟨h.j0, h.i0, h.k0, h.le⟩
section
variable {w : World} {g n cc : Nat} {S : Nat → Bk} {s : Hs} {F : Nat → Prop}
theorem EngS.fresh {w' : World} (h : EngS w g n S cc s F) (hb : Below w.heap.size w w') : EngS w' g n S cc s F := Eng.fresh h hb
theorem EngS.upto {cc' : Nat} (h : EngS w g n S cc s F) (hc : cc ≤ cc') : EngS w g n S cc' s F := Eng.mono h hc
theorem EngS.lt (h : EngS w g n S cc s F) : ∀ b, F b → b < w.heap.size := Eng.lt h
theorem hwrite_any (h : EngS w g n S cc s F) {i : Nat} (hi : i < n) (hcc : cc ≤ 99998) (hk : s.k ≤ 1000000) :
    Calls Try.prog 6 #[.pointer (some ⟨g, 0, none⟩), .int .i64 (i : Int)] w fun e w' => e = .returned (.tuple #[.int .i64 (wrN S s i), .int .i64 (wrE S s i)]) ∧ Went w w' F (EngS w' g n (wrS S s i) (cc + 1) (wrH S s i)) := by
  unfold wrN wrE wrS wrH wgo
  cases hu : wact s i with
  | false =>
    refine (hwrite_idle h (by omega) hk hi hu).mono ?_
    rintro e w' ⟨rfl, hB⟩
    exact ⟨rfl, Went.of_below' ((h.fresh hB).upto (by omega)) hB⟩
  | true =>
    cases hb : (S i).b with
    | true =>
      refine (hwrite_bad h (by omega) hk hi hu hb).mono ?_
      rintro e w' ⟨rfl, hB⟩
      exact ⟨rfl, Went.of_below' ((h.fresh hB).upto (by omega)) hB⟩
    | false =>
      refine (hwrite_ok h hcc hk hi hu hb).mono ?_
      rintro e w' ⟨rfl, hw⟩
      rw [hb] at hw
      exact ⟨rfl, hw⟩
theorem hflush_any (h : EngS w g n S cc s F) (hcc : cc < 100000) (hk : s.k ≤ 1000000) :
    Calls Try.prog 23 #[.pointer (some ⟨g, 0, none⟩)] w fun e w' => e = .returned (.int .i64 0) ∧ Went w w' F (EngS w' g n (fun j => (S j).flushed) cc (flH s)) := hflush h hcc hk
end
theorem units_lessT (l : List Hw) (T : List Int) : (units (lessU l T)).length ≤ (units l).length := by
  unfold units heads
  rw [List.length_map, List.length_map]
  exact ((List.filter_sublist (l := l) (p := fun x => !T.contains x.u)).filter (fun x : Hw => x.num == x.u)).length_le
theorem units_none {l : List Hw} (h : Ok l) (e : units l = []) : l = [] := by
  cases l with
  | nil => rfl
  | cons x r =>
    obtain ⟨y, hy, e1, e2, _⟩ := h.head x List.mem_cons_self
    have : y.num ∈ units (x :: r) := mem_units.2 ⟨y, hy, rfl, by rw [e2, e1]⟩
    rw [e] at this; cases this
/-- a Write of the first blocks, one behind the other -/
def rnd (S : Nat → Bk) (s : Hs) : Nat → (Nat → Bk) × Hs
  | 0 => (S, s)
  | j + 1 => (wrS (rnd S s j).1 (rnd S s j).2 j, wrH (rnd S s j).1 (rnd S s j).2 j)
theorem rnd_k (S : Nat → Bk) (s : Hs) (j : Nat) : (rnd S s j).2.k = s.k := by
  induction j with
  | zero => rfl
  | succ j ih => unfold rnd; rw [wrH_k, ih]
theorem rnd_l (S : Nat → Bk) (s : Hs) (j : Nat) : (rnd S s j).2.l = s.l := by
  induction j with
  | zero => rfl
  | succ j ih => unfold rnd; rw [wrH_l, ih]
/-- a round of Sync -/
def rouS (n : Nat) (S : Nat → Bk) (s : Hs) : Nat → Bk := fun j => ((rnd S s n).1 j).flushed
def rouH (n : Nat) (S : Nat → Bk) (s : Hs) : Hs := flH (rnd S s n).2
theorem rouH_k (n : Nat) (S : Nat → Bk) (s : Hs) : (rouH n S s).k = s.k := rnd_k S s n
theorem rouH_len (n : Nat) (S : Nat → Bk) (s : Hs) : (units (rouH n S s).l).length ≤ (units s.l).length := by
  unfold rouH flH
  have h := units_lessT (rnd S s n).2.l (rnd S s n).2.sent
  rw [rnd_l] at h ⊢
  exact h
end Go.Proofs.Ytkldiofleepkfaa.Hd
