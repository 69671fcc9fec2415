/- Contracts of the places' functions: At, Way, Route. -/
import Derived.Test.YtpelocpjfmmceaaPA
import Derived.Test.YtpelocpjfmmceaaC
import Derived.WalkMore
import Derived.Laws.Externs
import Derived.Deep.OwnRows
import Derived.Deep.DeepFit
import Derived.Deep.RegionWith
import Derived.BigRegion
set_option linter.unusedVariables false
set_option linter.unusedSimpArgs false
namespace Go.Proofs.Ytpelocpjfmmceaa
open Go.RowKit
/-- only draws lie between two worlds -/
def Quiet (w w' : World) : Prop := ∃ n, w' = w.drewN n
theorem Quiet.below {B : Nat} {a w w' : World} (q : Quiet w w') (h : Below B a w) : Below B a w' := by obtain ⟨n, rfl⟩ := q; exact ⟨h.os, h.tape, h.output, h.size, h.block⟩
theorem Quiet.size {w w' : World} (q : Quiet w w') : w'.heap.size = w.heap.size := by obtain ⟨n, rfl⟩ := q; rfl
theorem Quiet.heap {w w' : World} (q : Quiet w w') : w'.heap = w.heap := by obtain ⟨n, rfl⟩ := q; rfl
def BlkIs (w : World) (g : Nat) (t : TypeId) (l : List Value) : Prop := w.heap[g]? = some (.cells l.toArray t (0, 0))
theorem BlkIs.cell {w : World} {g : Nat} {t : TypeId} {l : List Value} (h : BlkIs w g t l) (k : Nat) : w.cell? ⟨g, k, none⟩ = l[k]? := by
  unfold BlkIs at h
  simp [World.cell?, h]
theorem BlkIs.frozen {w : World} {g : Nat} {t : TypeId} {l : List Value} (h : BlkIs w g t l) (k : Nat) : w.frozen? ⟨g, k, none⟩ = false := by
  unfold BlkIs at h
  simp [World.frozen?, h]
theorem BlkIs.set_ {w : World} {g : Nat} {t : TypeId} {l : List Value} (h : BlkIs w g t l) (k : Nat) (v : Value) : BlkIs (w.setCell ⟨g, k, none⟩ v) g t (l.set k v) := by
  unfold BlkIs at h ⊢
  simp [World.setCell, Array.getElem?_modify, h]
theorem BlkIs.lt {w : World} {g : Nat} {t : TypeId} {l : List Value} (h : BlkIs w g t l) : g < w.heap.size := by
  rcases Nat.lt_or_ge g w.heap.size with hlt | hge
  · exact hlt
  · unfold BlkIs at h; rw [Array.getElem?_eq_none hge] at h; cases h


/-- a place: a complex number of two whole parts -/
def pt (a b : Int) : Value := .complex .f64 (fl a) (fl b)

theorem toInt_of (nm : String) (way : Ieee.Toward) (x : Nat) (s : Bool) (m : Nat) (p : Int) (hd : FloatKind.f64.decode x = .number s m p) :
    Extern.MathFloor.toIntegral nm way #[.float .f64 x] = pure (.float .f64 (FloatKind.f64.encode ((Ieee.Datum.number s m p).integral way))) := by
  have key : ∃ F : Bool → Nat → Sem Value, ∀ d, d = FloatKind.f64.decode x → Extern.MathFloor.toIntegral nm way #[.float .f64 x] = (match d with | .nan s t => F s t | d => pure (.float .f64 (FloatKind.f64.encode (d.integral way)))) := by
    apply Exists.intro
    intro d e
    subst e
    rfl
  obtain ⟨F, hF⟩ := key
  rw [hF _ hd.symm]
theorem trunc_run (n : Nat) (h : n < 1024) (W : World) : (callFunc 84 #[.float .f64 (fl n)]).run Try.prog W = .ok (.value (.float .f64 (fl n))) W := by
  rw [run_callFunc_extern Try.func84 (by kernel_rfl) (by kernel_rfl) (by kernel_rfl) (e := Extern.MathFloor.toIntegral "math.archTrunc" .zero) (by kernel_rfl)]
  have ht := trunc_fl n h
  have hd : FloatKind.f64.decode (fl n) = .number false (n <<< (-(plc n)).toNat) (plc n) := fl_read n h
  rw [hd] at ht
  rw [toInt_of _ _ _ _ _ _ hd, ht]
  rfl
theorem bits_run (x : Nat) (W : World) : (callFunc 70 #[.float .f64 x]).run Try.prog W = .ok (.value (.int .u64 x)) W := by
  rw [run_callFunc_extern Try.func70 (by kernel_rfl) (by kernel_rfl) (by kernel_rfl) (e := Extern.MathFloatBits.float64bits) (by kernel_rfl)]
  rfl
theorem frombits_run (x : Int) (W : World) : (callFunc 69 #[.int .u64 x]).run Try.prog W = .ok (.value (.float .f64 x.toNat)) W := by
  rw [run_callFunc_extern Try.func69 (by kernel_rfl) (by kernel_rfl) (by kernel_rfl) (e := Extern.MathFloatBits.float64frombits) (by kernel_rfl)]
  rfl

theorem trunc_any (n : Nat) (h : n < 1024) (w : World) :
    Calls Try.prog 68 #[.float .f64 (fl n)] w fun e w' => e = .returned (.float .f64 (fl n)) ∧ w = w' := by
  have ht := trunc_run n h
  go_enter Try.func68, Try.ntmps68
  go_wp2
  go_ret
  exact ⟨rfl, rfl⟩

theorem abs_any (x n : Nat) (h : (bits .andNot .u64 (x : Int) 9223372036854775808).toNat = fl n) (w : World) :
    Calls Try.prog 47 #[.float .f64 x] w fun e w' => e = .returned (.float .f64 (fl n)) ∧ w = w' := by
  have h1 := bits_run x
  have h2 := fun W => frombits_run (bits .andNot .u64 (x : Int) 9223372036854775808) W
  rw [h] at h2
  clear h
  go_enter Try.func47, Try.ntmps47
  go_wp2
  go_ret
  exact ⟨rfl, rfl⟩


theorem abs_pos (n : Nat) (h : n < 1024) (w : World) :
    Calls Try.prog 47 #[.float .f64 (fl (n : Int))] w fun e w' => e = .returned (.float .f64 (fl n)) ∧ w = w' := abs_any _ n (abs_fl n h).1 w

set_option maxRecDepth 100000 in
set_option maxHeartbeats 1000000 in
theorem plain_any (a b : Nat) (ha : a < 1024) (hb : b < 1024) (w : World) :
    Calls Try.prog 46 #[pt a b] w fun e w' => e = .returned (.bool true) ∧ w = w' := by
  unfold pt
  have i0 : ∀ x y W, (Instr.index 87 (.agg #[.float .f64 x, .float .f64 y]) (.int .i64 0)).run Try.prog W = .ok (.float .f64 x) W := fun _ _ _ => by kernel_rfl
  have i1 : ∀ x y W, (Instr.index 87 (.agg #[.float .f64 x, .float .f64 y]) (.int .i64 1)).run Try.prog W = .ok (.float .f64 y) W := fun _ _ _ => by kernel_rfl
  go_enter Try.func46, Try.ntmps46
  have oa : (FloatKind.f64.format.order (fl (a : Int)) (fl (a : Int)) != some .eq) = false := by rw [order_same a ha]; rfl
  have ob : (FloatKind.f64.format.order (fl (b : Int)) (fl (b : Int)) != some .eq) = false := by rw [order_same b hb]; rfl
  have ta : (FloatKind.f64.format.order (fl (a : Int)) 4697254411347427328 == some .gt) = false := by rw [order_top a ha]; rfl
  have tb : (FloatKind.f64.format.order (fl (b : Int)) 4697254411347427328 == some .gt) = false := by rw [order_top b hb]; rfl
  go_wp2
  go_step3
  go_wp2
  go_loop [10] (fun i => ∃ k : Nat, k ≤ 2 ∧ i = .int .i64 k) (fun i => 2 - (intOf i).toNat)
  case atStart => exact ⟨0, by omega, rfl⟩
  case round =>
    obtain ⟨k, hk, rfl⟩ := hrel
    match k, hk with
    | 0, _ =>
      go_wp2_with (first | (go_at_call 68; refine (trunc_any a ha _).mono ?_; rintro e w' ⟨rfl, rfl⟩) | (go_at_call 47; refine (abs_pos a ha _).mono ?_; rintro e w' ⟨rfl, rfl⟩))
      go_round
      case rel => exact ⟨1, by omega, rfl⟩
      case measure => simp [intOf]
    | 1, _ =>
      go_wp2_with (first | (go_at_call 68; refine (trunc_any b hb _).mono ?_; rintro e w' ⟨rfl, rfl⟩) | (go_at_call 47; refine (abs_pos b hb _).mono ?_; rintro e w' ⟨rfl, rfl⟩))
      go_round
      case rel => exact ⟨2, by omega, rfl⟩
      case measure => simp [intOf]
    | 2, _ =>
      go_wp2
      go_ret
      exact ⟨rfl, rfl⟩

set_option maxRecDepth 100000 in
set_option maxHeartbeats 1000000 in
theorem at_yes (b p : Nat) (hb : b < 1024) (hp0 : 1 ≤ p) (hp : p ≤ 64) (w : World) :
    Calls Try.prog 22 #[.int .i64 (b : Int), .int .i64 (p : Int)] w fun e w' => e = .returned (.tuple #[pt ((b / p : Nat) : Int) ((b % p : Nat) : Int), .int .i64 0]) ∧ Quiet w w' := by
  have h1 : (b : Int) < 1024 := by omega
  have h2 : (1 : Int) ≤ (p : Int) := by omega
  have h3 : (p : Int) ≤ 64 := by omega
  have h4 : ((p : Int) == 0) = false := by simp; omega
  go_enter Try.func22, Try.ntmps22
  go_wp2
  go_region
  all_goals go_wp2
  go_ret2
  have e1 : wrap64 ((b : Int) / (p : Int)) = ((b / p : Nat) : Int) := by
    have h : (b : Int) / (p : Int) = ((b / p : Nat) : Int) := by simp
    have h2 : b / p ≤ b := Nat.div_le_self _ _
    rw [h]
    generalize b / p = q at h2
    exact IntWalk.wrap64_in _ ⟨by omega, by omega⟩
  have e2 : (b : Int) % (p : Int) = ((b % p : Nat) : Int) := by simp
  rw [e1, e2]
  exact ⟨rfl, 1, rfl⟩

theorem at_no (b p : Int) (h : b < 0 ∨ 1024 ≤ b ∨ p < 1 ∨ 64 < p) (w : World) :
    Calls Try.prog 22 #[.int .i64 b, .int .i64 p] w fun e w' => e = .returned (.tuple #[.complex .f64 0 0, .int .i64 2]) ∧ w = w' := by
  by_cases h1 : b < 0
  · go_enter Try.func22, Try.ntmps22
    go_wp2
    go_ret2
    exact ⟨rfl, rfl⟩
  by_cases h2 : 1024 ≤ b
  · go_enter Try.func22, Try.ntmps22
    go_wp2
    go_ret2
    exact ⟨rfl, rfl⟩
  by_cases h3 : p < 1
  · go_enter Try.func22, Try.ntmps22
    go_wp2
    go_ret2
    exact ⟨rfl, rfl⟩
  · have h4 : 64 < p := by omega
    go_enter Try.func22, Try.ntmps22
    go_wp2
    go_ret2
    exact ⟨rfl, rfl⟩
/-- may a block lie so? -/
def okAt (b p : Int) : Prop := (0 ≤ b ∧ b < 1024) ∧ 1 ≤ p ∧ p ≤ 64

set_option maxRecDepth 100000 in
set_option maxHeartbeats 1000000 in
theorem way_any (a b c d : Nat) (ha : a < 1024) (hb : b < 1024) (hc : c < 1024) (hd : d < 1024) (w : World) :
    Calls Try.prog 23 #[pt a b, pt c d] w fun e w' => e = .returned (.int .i64 ((((c : Int) - a).natAbs + ((d : Int) - b).natAbs : Nat) : Int)) ∧ w = w' := by
  obtain ⟨m, hm⟩ : ∃ m, m = ((c : Int) - a).natAbs := ⟨_, rfl⟩
  obtain ⟨n, hn⟩ : ∃ n, n = ((d : Int) - b).natAbs := ⟨_, rfl⟩
  have hm1 : m < 1024 := by omega
  have hn1 : n < 1024 := by omega
  have hsub := fun W => run_complex_sum (P := Try.prog) W .sub (.inr rfl) 49 .f64 (fl c) (fl d) (fl a) (fl b) (fl ((c : Int) - a)) (fl ((d : Int) - b)) (by unfold cSumBits; rw [sub_fl c a hc ha, sub_fl d b hd hb]; rfl)
  have hadd := fun W => run_float_arith (P := Try.prog) W .add 75 .f64 (fl m) (fl n) (fl ((m : Int) + n)) (add_fl m n hm1 hn1)
  have hint := fun W => run_convert_float_int (P := Try.prog) W 75 3 .f64 .i64 (fl ((m : Int) + n)) ((m : Int) + n) (by kernel_rfl) Try.underlying3 (by have := int_fl (m + n) (by omega); simpa using this)
  have e1 : (bits .andNot .u64 (fl ((c : Int) - a) : Int) 9223372036854775808).toNat = fl m := by
    have := abs_fl m hm1
    by_cases h : (a : Int) ≤ c
    · rw [show (c : Int) - a = (m : Int) from by omega]; exact this.1
    · rw [show (c : Int) - a = -(m : Int) from by omega]; exact this.2
  have e2 : (bits .andNot .u64 (fl ((d : Int) - b) : Int) 9223372036854775808).toNat = fl n := by
    have := abs_fl n hn1
    by_cases h : (b : Int) ≤ d
    · rw [show (d : Int) - b = (n : Int) from by omega]; exact this.1
    · rw [show (d : Int) - b = -(n : Int) from by omega]; exact this.2
  have E1 := Lib.hid e1
  have E2 := Lib.hid e2
  rw [← hm, ← hn]
  clear e1 e2 hm hn
  have hp1 := fun W => plain_any a b ha hb W
  have hp2 := fun W => plain_any c d hc hd W
  unfold pt at hp1 hp2 ⊢
  have Hp1 := Lib.hid hp1
  have Hp2 := Lib.hid hp2
  clear hp1 hp2
  go_enter Try.func23, Try.ntmps23
  go_wp2_with fail
  refine (Hp1.out _).mono ?_
  rintro e w' ⟨rfl, rfl⟩
  go_wp2_with fail
  refine (Hp2.out _).mono ?_
  rintro e w' ⟨rfl, rfl⟩
  go_wp2_with fail
  refine (abs_any _ m E1.out _).mono ?_
  rintro e w' ⟨rfl, rfl⟩
  go_wp2_with fail
  refine (abs_any _ n E2.out _).mono ?_
  rintro e w' ⟨rfl, rfl⟩
  go_wp2
  go_ret
  exact ⟨ret_int (by omega), rfl⟩


/-- where a block lies -/
def plV (i n : Nat) : Value := pt ((i / n : Nat) : Int) ((i % n : Nat) : Int)
theorem far_self (i n : Nat) : far i i n = 0 := by simp [far]
theorem far_tri (i j k n : Nat) : far i k n ≤ far i j n + far j k n := by unfold far; omega
theorem far_zero {i j n : Nat} (h : far i j n = 0) : i = j := by
  unfold far at h
  have h1 : i / n = j / n := by omega
  have h2 : i % n = j % n := by omega
  rw [← Nat.div_add_mod i n, ← Nat.div_add_mod j n, h1, h2]
theorem far_le (i j n : Nat) (hi : i < 1024) (hj : j < 1024) (hn : 1 ≤ n) (hn64 : n ≤ 64) : far i j n ≤ 1100 := by
  have h1 : i / n ≤ i := Nat.div_le_self _ _
  have h2 : j / n ≤ j := Nat.div_le_self _ _
  have h3 : i % n < n := Nat.mod_lt _ (by omega)
  have h4 : j % n < n := Nat.mod_lt _ (by omega)
  unfold far
  generalize i / n = a at *
  generalize j / n = b at *
  generalize i % n = c at *
  generalize j % n = d at *
  have e1 : ((b : Int) - a).natAbs ≤ 1023 := by omega
  have e2 : ((d : Int) - c).natAbs ≤ 63 := by omega
  omega
theorem at_of (b p : Int) (i n : Nat) (e1 : b = (i : Int)) (e2 : p = (n : Int)) (hi : i < 1024) (hn : 1 ≤ n) (hn64 : n ≤ 64) (w : World) :
    Calls Try.prog 22 #[.int .i64 b, .int .i64 p] w fun e w' => e = .returned (.tuple #[plV i n, .int .i64 0]) ∧ Quiet w w' := by
  subst e1 e2
  exact at_yes i n hi hn hn64 w
theorem way_of (i j n : Nat) (hi : i < 1024) (hj : j < 1024) (hn : 1 ≤ n) (hn64 : n ≤ 64) (w : World) :
    Calls Try.prog 23 #[plV i n, plV j n] w fun e w' => e = .returned (.int .i64 (far i j n : Nat)) ∧ w = w' := by
  have h1 : i / n ≤ i := Nat.div_le_self _ _
  have h2 : j / n ≤ j := Nat.div_le_self _ _
  have h3 : i % n < n := Nat.mod_lt _ (by omega)
  have h4 : j % n < n := Nat.mod_lt _ (by omega)
  exact way_any (i / n) (i % n) (j / n) (j % n) (by omega) (by omega) (by omega) (by omega) w
theorem plV_form (i n : Nat) : ∃ x y, plV i n = .complex .f64 x y := ⟨_, _, rfl⟩
/-- may a block lie so? -/
def okB (b p : Int) : Bool := decide (0 ≤ b) && decide (b < 1024) && decide (1 ≤ p) && decide (p ≤ 64)
/-- may a block lie so, and some others? -/
def fitB (f : Int) (l : List Int) (p : Int) : Bool := okB f p && l.all fun x => okB x p
theorem okB_yes {b p : Int} (h : okB b p = true) : ∃ i n : Nat, b = (i : Int) ∧ p = (n : Int) ∧ i < 1024 ∧ 1 ≤ n ∧ n ≤ 64 := by
  unfold okB at h
  simp at h
  exact ⟨b.toNat, p.toNat, by omega, by omega, by omega, by omega, by omega⟩
theorem okB_no {b p : Int} (h : okB b p = false) : b < 0 ∨ 1024 ≤ b ∨ p < 1 ∨ 64 < p := by
  unfold okB at h
  simp at h
  omega
theorem fitB_from {f : Int} {l : List Int} {p : Int} (h : fitB f l p = true) : okB f p = true := by
  unfold fitB at h
  simp at h
  exact h.1
theorem fitB_nth {f : Int} {l : List Int} {p : Int} (h : fitB f l p = true) {k : Nat} (hk : k < l.length) : okB (inn l k) p = true := by
  unfold fitB at h
  simp at h
  rw [inn_lt hk]
  exact h.2 _ (List.getElem_mem hk)
theorem fitB_nil (f p : Int) : fitB f [] p = okB f p := by simp [fitB]
theorem fitB_snoc (f : Int) (l : List Int) (p : Int) (k : Nat) (hk : k < l.length) : fitB f (l.take (k + 1)) p = (fitB f (l.take k) p && okB (inn l k) p) := by
  have e : l.take (k + 1) = l.take k ++ [inn l k] := by
    rw [List.take_succ_eq_append_getElem hk, inn_lt hk]
  rw [e]
  simp [fitB, Bool.and_assoc]
theorem fitB_take {f : Int} {l : List Int} {p : Int} (k : Nat) (h : fitB f (l.take k) p = false) : fitB f l p = false := by
  cases h2 : fitB f l p with
  | false => rfl
  | true =>
    unfold fitB at h h2
    simp at h h2
    obtain ⟨x, hx, h3⟩ := h h2.1
    rw [h2.2 x (List.mem_of_mem_take hx)] at h3
    cases h3

/-- the block at k -/
def nn (l : List Int) (k : Nat) : Nat := (inn l k).toNat
/-- where one stands behind k steps -/
def stands (f : Nat) (l : List Int) (k : Nat) : Nat := match k with | 0 => f | j + 1 => nn l j
/-- how far one went behind k steps -/
def goes (f : Nat) (l : List Int) (n : Nat) : Nat → Nat
  | 0 => 0
  | k + 1 => goes f l n k + far (stands f l k) (nn l k) n
theorem goes_succ (f : Nat) (l : List Int) (n k : Nat) : goes f l n (k + 1) = goes f l n k + far (stands f l k) (nn l k) n := rfl
theorem stands_succ (f : Nat) (l : List Int) (k : Nat) : stands f l (k + 1) = nn l k := rfl

/-- blocks that lie, and a track that may be -/
structure Lies (f : Nat) (l : List Int) (n : Nat) : Prop where
  from_ : f < 1024
  lo : 1 ≤ n
  hi : n ≤ 64
  at_ : ∀ k, k < l.length → inn l k = (nn l k : Nat) ∧ nn l k < 1024
theorem fit_lies {f : Int} {l : List Int} {p : Int} (h : fitB f l p = true) : ∃ i n : Nat, f = (i : Int) ∧ p = (n : Int) ∧ Lies i l n := by
  obtain ⟨i, n, e1, e2, h1, h2, h3⟩ := okB_yes (fitB_from h)
  refine ⟨i, n, e1, e2, h1, h2, h3, fun k hk => ?_⟩
  obtain ⟨j, m, e3, _, h4, _, _⟩ := okB_yes (fitB_nth h hk)
  unfold nn
  rw [e3]
  exact ⟨by omega, by omega⟩
theorem lies_fit {i n : Nat} {l : List Int} (h : Lies i l n) : fitB (i : Int) l (n : Int) = true := by
  have h1 := h.from_
  have h2 := h.lo
  have h3 := h.hi
  unfold fitB okB
  simp
  refine ⟨by omega, ?_⟩
  intro x hx
  obtain ⟨k, hk, rfl⟩ := List.mem_iff_getElem.1 hx
  have := h.at_ k hk
  rw [inn_lt hk] at this
  omega
theorem Lies.stands_lt {f : Nat} {l : List Int} {n : Nat} (h : Lies f l n) {k : Nat} (hk : k ≤ l.length) : stands f l k < 1024 := by
  cases k with
  | zero => exact h.from_
  | succ j => exact (h.at_ j hk).2
theorem Lies.goes_le {f : Nat} {l : List Int} {n : Nat} (h : Lies f l n) {k : Nat} (hk : k ≤ l.length) : goes f l n k ≤ 1100 * k := by
  induction k with
  | zero => simp [goes]
  | succ j ih =>
    have h1 := ih (by omega)
    have h2 := far_le (stands f l j) (nn l j) n (h.stands_lt (by omega)) (h.at_ j hk).2 h.lo h.hi
    rw [goes_succ]
    omega
theorem Ints.at_nn {w : World} {B : Nat} {A : Option Addr} {f n : Nat} {l : List Int} (h : Ints w B A l) (hL : Lies f l n) {k : Nat} (hk : k < l.length) : ∃ b off, A = some ⟨b, off, none⟩ ∧ b < B ∧ w.cell? ⟨b, off + k, none⟩ = some (.int .i64 (nn l k : Nat)) := by
  obtain ⟨b, off, e, hb, hc⟩ := h.at_ hk
  rw [(hL.at_ k hk).1] at hc
  exact ⟨b, off, e, hb, hc⟩

theorem run_store_float (P : Program) (w : World) (a : Addr) (m : Mode) (k : FloatKind) (x : Nat) : (store a (.float k x) m).run P w = stored P w a (.float k x) m := run_store P w a _ m rfl
theorem run_store_complex (P : Program) (w : World) (a : Addr) (m : Mode) (k : FloatKind) (x y : Nat) : (store a (.complex k x y) m).run P w = stored P w a (.complex k x y) m := run_store P w a _ m rfl



theorem info34 : (Try.prog.info? 49).map (fun i => (i.zero, i.size, i.bytes)) = some (some (.complex .f64 0 0), 1, 16) := by kernel_rfl
def zeroC : Value := .complex .f64 0 0
def placed (l : List Int) (n k : Nat) : List Value := (List.range l.length).map fun j => if j < k then plV (nn l j) n else zeroC
theorem length_placed (l : List Int) (n k : Nat) : (placed l n k).length = l.length := by simp [placed]
theorem placed_zero (l : List Int) (n : Nat) : placed l n 0 = List.replicate l.length zeroC := by
  apply List.ext_getElem
  · simp [placed]
  · intro i h1 h2; simp [placed]
theorem placed_set (l : List Int) (n k : Nat) : (placed l n k).set k (plV (nn l k) n) = placed l n (k + 1) := by
  apply List.ext_getElem
  · simp [placed]
  · intro i h1 h2
    rw [List.getElem_set]
    by_cases e : k = i
    · subst e; simp [placed]
    · rw [if_neg e]
      simp only [placed, List.getElem_map, List.getElem_range]
      by_cases h : i < k
      · rw [if_pos h, if_pos (by omega)]
      · rw [if_neg h, if_neg (by omega)]
theorem placed_at (l : List Int) (n k j : Nat) (hj : j < l.length) : (placed l n k)[j]? = some (if j < k then plV (nn l j) n else zeroC) := by
  rw [List.getElem?_eq_getElem (by rw [length_placed]; exact hj)]
  simp [placed]
theorem made_cx (n : Nat) : madeCells #[Value.complex .f64 0 0] n = (List.replicate n zeroC).toArray := by
  apply Array.ext
  · simp [size_madeCells]
  · intro i h1 h2; simp [madeCells, Nat.mod_one, zeroC]

def LaySays (w : World) (f : Int) (l : List Int) (p : Int) (e : Ending) (w' : World) : Prop :=
  Below w.heap.size w w' ∧ ((fitB f l p = true ∧ e = .returned (.tuple #[plV f.toNat p.toNat, .slice (some ⟨w.heap.size, 0, none⟩) l.length l.length, .int .i64 0]) ∧ BlkIs w' w.heap.size 49 (placed l p.toNat l.length))
    ∨ (fitB f l p = false ∧ e = .returned (.tuple #[.complex .f64 0 0, .slice none 0 0, .int .i64 2])))

set_option maxRecDepth 100000 in
set_option maxHeartbeats 2000000 in
theorem lay_any (A : Option Addr) (c : Nat) (f p : Int) (l : List Int) (w : World) (hl : l.length ≤ 1000) (hi : Ints w w.heap.size A l) :
    Calls Try.prog 83 #[.int .i64 f, .slice A l.length c, .int .i64 p] w (LaySays w f l p) := by
  have hst := fun (W : World) (a : Addr) (m : Mode) (x y : Nat) => run_store_complex Try.prog W a m .f64 x y
  have hmk := fun W => run_make_row' (P := Try.prog) 102 49 (.complex .f64 0 0) 16 Try.underlying102 info34 rfl .i64 .i64 l.length (by omega) (by omega) W
  rw [made_cx] at hmk
  have HI := Lib.hid hi
  clear hi
  cases hok : okB f p with
  | false =>
    have HX : Hid (fitB f l p = false) := by unfold fitB; rw [hok]; rfl
    have HA := Lib.hid (fun W => at_no f p (okB_no hok) W)
    clear hok hmk hst
    go_enter Try.func83, Try.ntmps83
    go_wp2_with fail
    refine (HA.out _).mono ?_
    rintro e w' ⟨rfl, rfl⟩
    go_wp2
    exact bodyPost_ret (v := .tuple #[.complex .f64 0 0, .slice none 0 0, .int .i64 2]) (by simp [results, Try.results83, go_sem]) rfl ⟨Below.refl _ _, .inr ⟨HX.out, rfl⟩⟩
  | true =>
    have Hok := Lib.hid hok
    obtain ⟨i0, n, rfl, rfl, h1, h2, h3⟩ := okB_yes hok
    clear hok
    have HA := Lib.hid (fun W => at_of (i0 : Int) (n : Int) i0 n rfl rfl h1 h2 h3 W)
    obtain ⟨xf, yf, hpf⟩ := plV_form i0 n
    rw [hpf] at HA
    have Hpf := Lib.hid hpf
    clear hpf
    obtain ⟨L0, hL0⟩ : ∃ L0, L0 = List.replicate l.length zeroC := ⟨_, rfl⟩
    rw [← hL0] at hmk
    have HL0 := Lib.hid hL0
    clear hL0
    go_enter Try.func83, Try.ntmps83
    go_wp2_with fail
    refine (HA.out _).mono ?_
    rintro e w1 ⟨rfl, hq1⟩
    have hB1 := hq1.below (Below.refl w.heap.size w)
    have hz1 := hq1.size
    have HZ1 := Lib.hid hz1
    clear hz1
    go_wp2
    go_loopw [10, 28] (fun e i wr => ∃ k : Nat, k ≤ l.length ∧ i = .int .i64 k ∧ e = .int .i64 0 ∧ fitB (i0 : Int) (l.take k) (n : Int) = true ∧ BlkIs wr w1.heap.size 49 (placed l n k) ∧ Below w.heap.size w wr) (fun _ i _ => l.length - (intOf i).toNat)
    case atStart =>
      refine ⟨0, Nat.zero_le _, rfl, rfl, by rw [List.take_zero, fitB_nil]; exact Hok.out, ?_, hB1.alloc hB1.size _⟩
      have := heap_alloc_new w1 (.cells L0.toArray 49)
      rw [HL0.out, ← placed_zero l n] at this
      rw [HL0.out, ← placed_zero l n]
      exact this
    case round =>
      obtain ⟨k, hk, rfl, rfl, hfk, hblk, hB⟩ := hrel
      rename World => wr
      have Hfk := Lib.hid hfk
      clear hfk
      by_cases hlt : k < l.length
      · have hlti : (k : Int) < (l.length : Int) := by omega
        have hk0 : (0 : Int) ≤ (k : Int) := by omega
        obtain ⟨b, off, rfl, hb, hc⟩ := HI.out.at_ hlt
        have hck := (hB.cell hb).trans hc
        clear hc
        have Hblk := Lib.hid hblk
        clear hblk
        cases hn : okB (inn l k) (n : Int) with
        | true =>
          obtain ⟨j, n2, e1, e2, g1, g2, g3⟩ := okB_yes hn
          have Hsn := Lib.hid (show fitB (i0 : Int) (l.take (k + 1)) (n : Int) = true by rw [fitB_snoc _ _ _ _ hlt, Hfk.out, hn]; rfl)
          have hj : j = nn l k := by unfold nn; rw [e1]; omega
          obtain ⟨xk, yk, hpk⟩ := plV_form j n
          have Hset := Lib.hid (placed_set l n k)
          rw [← hj, hpk] at Hset
          have HA2 := Lib.hid (fun W => at_of (j : Int) (n : Int) j n rfl rfl g1 h2 h3 W)
          rw [hpk] at HA2
          rw [e1] at hck
          clear hn e1 e2 hj hpk
          go_wp2_with fail
          refine (HA2.out _).mono ?_
          rintro e w3 ⟨rfl, hq3⟩
          have hblk3 : BlkIs w3 w1.heap.size 49 (placed l n k) := by
            obtain ⟨m, rfl⟩ := hq3
            exact Hblk.out
          have hB3 := hq3.below hB
          have c3 : w3.cell? ⟨w1.heap.size, k, none⟩ = some zeroC := by
            rw [hblk3.cell, placed_at l n k k hlt, if_neg (Nat.lt_irrefl k)]
          have f3 : w3.frozen? ⟨w1.heap.size, k, none⟩ = false := hblk3.frozen _
          have Hfin := Lib.hid (show BlkIs (w3.setCell ⟨w1.heap.size, k, none⟩ (.complex .f64 xk yk)) w1.heap.size 49 (placed l n (k + 1)) by
            have := hblk3.set_ k (.complex .f64 xk yk)
            rw [Hset.out] at this
            exact this)
          have HB3 := Lib.hid (hB3.setCell (p := ⟨w1.heap.size, k, none⟩) (by rw [HZ1.out]; exact Nat.le_refl _) (.complex .f64 xk yk))
          clear hblk3 hB3
          unfold zeroC at c3
          go_wp2
          go_roundw
          case rel => exact ⟨k + 1, by omega, by go_num, rfl, Hsn.out, Hfin.out, HB3.out⟩
          case measure => simp [intOf]; omega
        | false =>
          have Hsn := Lib.hid (fitB_take (k + 1) (show fitB (i0 : Int) (l.take (k + 1)) (n : Int) = false by rw [fitB_snoc _ _ _ _ hlt, Hfk.out, hn]; rfl))
          have HA2 := Lib.hid (fun W => at_no (inn l k) (n : Int) (okB_no hn) W)
          clear hn
          have c3 : wr.cell? ⟨w1.heap.size, k, none⟩ = some zeroC := by
            rw [Hblk.out.cell, placed_at l n k k hlt, if_neg (Nat.lt_irrefl k)]
          have f3 : wr.frozen? ⟨w1.heap.size, k, none⟩ = false := Hblk.out.frozen _
          have HB3 := Lib.hid (hB.setCell (p := ⟨w1.heap.size, k, none⟩) (by rw [HZ1.out]; exact Nat.le_refl _) (.complex .f64 0 0))
          unfold zeroC at c3
          go_wp2_with fail
          refine (HA2.out _).mono ?_
          rintro e w' ⟨rfl, rfl⟩
          go_wp2
          exact bodyPost_ret (v := .tuple #[.complex .f64 0 0, .slice none 0 0, .int .i64 2]) (by simp [results, Try.results83, go_sem]) rfl ⟨HB3.out, .inr ⟨Hsn.out, rfl⟩⟩
      · have hlti : ¬ (k : Int) < (l.length : Int) := by omega
        obtain rfl : k = l.length := by omega
        rw [List.take_length] at Hfk
        have Hblk := Lib.hid hblk
        clear hblk
        go_wp2
        refine bodyPost_ret (v := .tuple #[.complex .f64 xf yf, .slice (some ⟨w1.heap.size, 0, none⟩) l.length l.length, .int .i64 0]) (by simp [results, Try.results83, go_sem]) rfl ⟨hB, .inl ⟨Hfk.out, ?_, ?_⟩⟩
        · rw [HZ1.out, Int.toNat_natCast, Int.toNat_natCast, Hpf.out]
        · rw [← HZ1.out, Int.toNat_natCast]
          exact Hblk.out
/-- a slice's address under which, below block B, the cells are places -/
def Places (w : World) (B : Nat) (A : Option Addr) (q : Nat → Nat) (m n : Nat) : Prop :=
  0 < m → ∃ b off, A = some ⟨b, off, none⟩ ∧ b < B ∧ ∀ j, j < m → w.cell? ⟨b, off + j, none⟩ = some (plV (q j) n)
theorem Places.keep {w w' : World} {B : Nat} {A : Option Addr} {q : Nat → Nat} {m n : Nat} (h : Places w B A q m n) (hk : ∀ p : Addr, p.block < B → w'.cell? p = w.cell? p) : Places w' B A q m n := fun hm => by
  obtain ⟨b, off, e, hb, hc⟩ := h hm
  exact ⟨b, off, e, hb, fun j hj => (hk _ hb).trans (hc j hj)⟩
theorem BlkIs.places {w : World} {g B n : Nat} {l : List Int} (h : BlkIs w g 49 (placed l n l.length)) (hB : g < B) : Places w B (some ⟨g, 0, none⟩) (nn l) l.length n := fun _ =>
  ⟨g, 0, rfl, hB, fun j hj => by rw [h.cell, Nat.zero_add, placed_at l n _ j hj, if_pos hj]⟩

def RouteSays (w : World) (f : Int) (l : List Int) (p : Int) (e : Ending) (w' : World) : Prop :=
  Below w.heap.size w w' ∧ ((fitB f l p = true ∧ e = .returned (.tuple #[.int .i64 (goes f.toNat l p.toNat l.length : Nat), .int .i64 0])) ∨ (fitB f l p = false ∧ e = .returned (.tuple #[.int .i64 0, .int .i64 2])))

set_option maxRecDepth 100000 in
set_option maxHeartbeats 1000000 in
theorem route_any (A : Option Addr) (c : Nat) (f p : Int) (l : List Int) (w : World) (hl : l.length ≤ 1000) (hi : Ints w w.heap.size A l) :
    Calls Try.prog 65 #[.int .i64 f, .slice A l.length c, .int .i64 p] w (RouteSays w f l p) := by
  have Hlay := Lib.hid (lay_any A c f p l w hl hi)
  go_enter Try.func65, Try.ntmps65
  go_wp2_with fail
  refine Hlay.out.mono ?_
  rintro e w1 ⟨hB1, ⟨hf, rfl, hblk⟩ | ⟨hf, rfl⟩⟩
  · obtain ⟨i, n, e1, e2, hL⟩ := fit_lies hf
    have hp := hblk.places hblk.lt
    have HF := Lib.hid hf
    have Hfin : Hid (∀ x : Nat, x = goes i l n l.length → RouteSays w f l p (.returned (.tuple #[.int .i64 (x : Int), .int .i64 0])) w1) := fun x hx => ⟨hB1, .inl ⟨HF.out, by rw [hx, e1, e2, Int.toNat_natCast, Int.toNat_natCast]⟩⟩
    rw [e1, e2, Int.toNat_natCast, Int.toNat_natCast]
    rw [e2, Int.toNat_natCast] at hp
    have HL := Lib.hid hL
    have HP := Lib.hid hp
    obtain ⟨g, hg⟩ : ∃ g, g = w.heap.size := ⟨_, rfl⟩
    rw [← hg] at HP ⊢
    clear hg hf e1 e2 hL hp hblk
    obtain ⟨xf, yf, hpf⟩ := plV_form i n
    rw [hpf]
    have Hpf := Lib.hid hpf
    clear hpf
    go_wp2
    go_loop [8, 11, 27] (fun h t j => ∃ k : Nat, k ≤ l.length ∧ j = .int .i64 k ∧ t = .int .i64 (goes i l n k : Nat) ∧ h = plV (stands i l k) n) (fun _ _ j => l.length - (intOf j).toNat)
    case atStart => exact ⟨0, Nat.zero_le _, rfl, rfl, Hpf.out.symm⟩
    case round =>
      obtain ⟨k, hk, rfl, rfl, rfl⟩ := hrel
      by_cases hlt : k < l.length
      · have hlti : (k : Int) < (l.length : Int) := by omega
        have hk0 : (0 : Int) ≤ (k : Int) := by omega
        obtain ⟨b, off, e3, hb, hc⟩ := HP.out (by omega)
        injection e3 with e3; injection e3 with e4 e5; subst e4; subst e5
        have hck := hc k hlt
        rw [Nat.zero_add] at hck
        have hgl := HL.out.goes_le (Nat.le_of_lt hlt)
        have hfl := far_le (stands i l k) (nn l k) n (HL.out.stands_lt (by omega)) (HL.out.at_ k hlt).2 HL.out.lo HL.out.hi
        have HW := Lib.hid (fun W => way_of (stands i l k) (nn l k) n (HL.out.stands_lt (by omega)) (HL.out.at_ k hlt).2 HL.out.lo HL.out.hi W)
        have hgs := goes_succ i l n k
        have hss := stands_succ i l k
        obtain ⟨t, ht⟩ : ∃ t, t = goes i l n k := ⟨_, rfl⟩
        obtain ⟨d, hd⟩ : ∃ d, d = far (stands i l k) (nn l k) n := ⟨_, rfl⟩
        rw [← ht] at hgl hgs ⊢
        rw [← hd] at hfl hgs HW
        have hti : (t : Int) ≤ 1100000 := by omega
        have hdi : (d : Int) ≤ 1100 := by omega
        obtain ⟨xs, ys, hps⟩ := plV_form (stands i l k) n
        obtain ⟨xk, yk, hpk⟩ := plV_form (nn l k) n
        rw [hps] at HW ⊢
        rw [hpk] at HW hck
        have Hgs := Lib.hid hgs
        have Hpk := Lib.hid hpk
        have Hss := Lib.hid hss
        clear hc hgs hss ht hd hps hpk
        go_wp2_with fail
        refine (HW.out _).mono ?_
        rintro e w' ⟨rfl, rfl⟩
        go_wp2
        go_round
        case rel => exact ⟨k + 1, by omega, by go_num, by rw [Hgs.out]; simp, by rw [Hss.out, Hpk.out]⟩
        case measure => simp [intOf]; omega
      · have hlti : ¬ (k : Int) < (l.length : Int) := by omega
        obtain rfl : k = l.length := by omega
        obtain ⟨t, ht⟩ : ∃ t, t = goes i l n l.length := ⟨_, rfl⟩
        rw [← ht]
        have HX := Lib.hid (Hfin.out t ht)
        clear ht
        obtain ⟨xs, ys, hps⟩ := plV_form (stands i l l.length) n
        rw [hps]
        clear hps
        go_wp2
        go_ret2
        exact HX.out
  · have HX : Hid (RouteSays w f l p (.returned (.tuple #[.int .i64 0, .int .i64 2])) w1) := ⟨hB1, .inr ⟨hf, rfl⟩⟩
    clear hf
    go_wp2
    go_ret2
    exact HX.out
end Go.Proofs.Ytpelocpjfmmceaa
