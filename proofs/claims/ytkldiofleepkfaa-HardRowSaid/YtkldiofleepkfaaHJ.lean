/- The units that wait on a block, rising: on. -/
import Derived.Test.YtkldiofleepkfaaHI
set_option linter.unusedVariables false
set_option linter.unusedSimpArgs false
namespace Go.Proofs.Ytkldiofleepkfaa.Hd
open Go.RowKit
open Go.Maps (Keyed)
theorem keys_permH {w : World} {b c : Nat} {R : Value → Option (DataW Value × List MemPlace)} {p : List Int} (hp : p.Nodup) {D : DataW Value} (h1 : w.ownsMap Try.prog 3 R b c D) (h2 : ∀ x : Int, Maps.has D (.int .i64 x) = true ↔ x ∈ p) : p.Perm (intKeys D) := by
  obtain ⟨es, hD, hpw, hk⟩ := h1.entries lawI
  obtain ⟨es', hD', hko⟩ := h1.keysOf
  obtain rfl : es = es' := by rw [hD] at hD'; simpa using hD'
  subst hD
  exact perm_intKeys hpw (fun p hp => by obtain ⟨v, hv⟩ := hko p hp; obtain ⟨x, _, hx, _⟩ := Maps.keyOf_i64 Try.underlying3 hv; exact ⟨x, hx⟩) hp (fun x => (h2 x).symm)
theorem keys_sizeH {w : World} {b c : Nat} {R : Value → Option (DataW Value × List MemPlace)} {p : List Int} (hp : p.Nodup) {D : DataW Value} (h1 : w.ownsMap Try.prog 3 R b c D) (h2 : ∀ x : Int, Maps.has D (.int .i64 x) = true ↔ x ∈ p) : Maps.size D = p.length := by
  have h := (keys_permH hp h1 h2).length_eq
  obtain ⟨es, hD, _⟩ := h1.entries lawI
  subst hD
  rw [h]
  simp [intKeys, Maps.size]
theorem nodup_rise {l : List Int} (h : l.Pairwise (· < ·)) : l.Nodup := h.imp (fun q e => by omega)
theorem units_len (l : List Hw) : (units l).length ≤ l.length := by unfold units heads; rw [List.length_map]; exact List.length_filter_le _ _
theorem infoPU : (Try.prog.info? 59).map (fun i => (i.zero, i.size, i.bytes)) = some (some (.pointer none), 1, 8) := by kernel_rfl
theorem ne_key {a b : Int} (h : a ≠ b) : (Lit.int .i64 a) ≠ .int .i64 b := fun e => h (by injection e)
/-- the step of a loop over a map of pointers -/
theorem wpList_next_ptr {P : Program} {ops : Array Oper} {rest : List Oper} {o : Oper} {a : Act} {w : World} {Q : Exit → Act → World → Prop} (hg : o.guard = none) (it : Operand) (hop : o.op = Op.next it false) (k : TypeId) (K : Keyed P k) (hk : P.underlying k = some (.int .i64))
    (b r n : Nat) (D : DataW Value) (left : Lit → Bool) (cnt : Nat) (hit : a.eval it = .pointer (some ⟨r, 0, none⟩)) (h : w.ranges P k RV b r n D left cnt) (ks : List Int) (f : Int → Nat)
    (hX : ∀ x : Int, left (.int .i64 x) = true → x ∈ ks) (m3 : ∀ x ∈ ks, ∀ z, D.atKey (.int .i64 x) z = .held (ptr (f x)))
    (hDone : cnt = 0 → (∀ kl, left kl = false) → wpList P ops Q rest (a.put o.dst (.tuple #[.bool false])) w)
    (hMore : ∀ (x : Int) (w' : World) (cnt' : Nat), x ∈ ks → left (.int .i64 x) = true → w'.ranges P k RV b r n D (fun z => left z && !z.sameKey (.int .i64 x)) cnt' → cnt' < cnt →
      w.grownBy w' (some r) → w'.heap.size = w.heap.size → (Instr.entry (.pointer (some ⟨r, 0, none⟩))).run P w' = .ok (.tuple #[.int .i64 x, .pointer (some ⟨f x, 0, none⟩)]) w' → wpList P ops Q rest (a.put o.dst (.tuple #[.bool true, .int .i64 x, .pointer (some ⟨f x, 0, none⟩)])) w') :
    wpList P ops Q (o :: rest) a w :=
  wpList_next_ranges w hg it hop k K RV (Value.int .i64) (fun v => v) (fun key kl hkey => by obtain ⟨x, rfl, _⟩ := Maps.keyOf_int_inv hk hkey; exact ⟨x, rfl⟩) (fun v y _ => ⟨v, rfl⟩) b r n D left cnt hit h hDone
    (fun x c kl y w' cnt' hkey hlk hv hat hrg hlt hgr hsz hen => by
      obtain ⟨x', ex, rfl, hwx⟩ := Maps.keyOf_int_inv hk hkey
      cases ex
      have hq := hX x hlk
      have e := m3 x hq (.held (.pointer none))
      rw [hat] at e
      unfold RV at hv
      injection hv with hv
      rw [← hv] at e
      injection e with e
      subst e
      exact hMore x w' cnt' hq hlk hrg hlt hgr hsz hen)
theorem below_grown {w w' : World} (h : Below w.heap.size w w') : w.grownBy w' none := ⟨h.os, h.tape, h.output, h.size, fun k hk _ => h.block k hk⟩
theorem grown_below {B : Nat} {w w' : World} {r : Nat} (h : w.grownBy w' (some r)) (hr : B ≤ r) (hB : B ≤ w.heap.size) : Below B w w' := ⟨h.os, h.tape, h.output, h.size, fun k hk => h.block k (by omega) (by intro e; have := Option.some.inj e; omega)⟩
theorem strike_other (left : Lit → Bool) {x y : Int} (h : x ≠ y) : (fun z => left z && !z.sameKey (.int .i64 y)) (.int .i64 x) = left (.int .i64 x) := by
  have : (Lit.int .i64 x).sameKey (.int .i64 y) = false := Maps.sameKey_ne (ne_key h)
  simp [this]
theorem strike_self (left : Lit → Bool) (x : Int) : (fun z => left z && !z.sameKey (.int .i64 x)) (.int .i64 x) = false := by simp [Lit.sameKey]
theorem mem_onU' {l : List Hw} (h : Asc l) {b u : Int} : u ∈ onU l b ↔ u ∈ units l ∧ ubl l u = b := by
  rw [mem_onU, mem_units]
  constructor
  · rintro ⟨x, hx, h1, h2, h3⟩
    exact ⟨⟨x, hx, h1, h2⟩, by rw [← h1, ubl_at h hx, h3]⟩
  · rintro ⟨⟨x, hx, h1, h2⟩, h3⟩
    exact ⟨x, hx, h1, h2, by rw [← h1, ubl_at h hx] at h3; exact h3⟩
def ptrsU (f : Int → Nat) (T : List Int) : List Value := T.map fun u => ptr (f u)
/-- on under way: those that came and are of the block stand in the row -/
def OnS (w wr : World) (gu r cc : Nat) (D : DataW Value) (ks : List Int) (p : Int → Prop) (f : Int → Nat) (left : Lit → Bool) (cnt : Nat) (T : List Int) (A : Option Addr) (c : Nat) : Prop :=
  wr.ranges Try.prog 3 RV gu r cc D left cnt ∧ (∀ x : Int, left (.int .i64 x) = true → x ∈ ks) ∧ Below r w wr ∧ r < wr.heap.size ∧
    wr.ownsRow (r + 1) 59 1 (.slice A T.length c) T.length (ptrsU f T) ∧ T.Nodup ∧ T.length + cnt ≤ Maps.size D ∧ ∀ x : Int, x ∈ T ↔ (x ∈ ks ∧ p x) ∧ left (.int .i64 x) = false
end Go.Proofs.Ytkldiofleepkfaa.Hd
