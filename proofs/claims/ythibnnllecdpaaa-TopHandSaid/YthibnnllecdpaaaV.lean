/- Both caches side by side; live; do; same. -/
import Derived.Test.YthibnnllecdpaaaU3
namespace Go.Proofs.Ythibnnllecdpaaa
open Go.RowKit

/-- both caches, each with the same row -/
structure Two (B : Nat) (w : World) (gc : Nat) (vc : Value) (gr : Nat) (vr : Value) (M : Nat) (l : List H) : Prop where
  c : CacheAt 69 66 B w gc vc M l
  r : CacheAt 77 102 B w gr vr M l
  len : l.length ≤ M
  hM : M ≤ 96
  base : B ≤ w.heap.size
def AtTwo (gc : Nat) (vc : Value) (gr : Nat) (vr : Value) : Nat → Prop := fun k => At gc vc k ∨ At gr vr k
theorem At.typed {T E : TypeId} {B : Nat} {w : World} {g : Nat} {v : Value} {m : Int} {l : List H} (h : CacheAt T E B w g v m l) {k : Nat} (hk : At g v k) : ∃ cs t, w.heap[k]? = some (.cells cs t (0, 0)) ∧ (t = T ∨ t = E) := by
  rcases hk with rfl | hk
  · exact ⟨_, _, h.head, .inl rfl⟩
  · rcases h.row.2 with ⟨rfl, _⟩ | ⟨b, cap, cur, rfl, _, hb, _⟩
    · simp [Value.ownBlock] at hk
    · have : b = k := by simpa [Value.ownBlock] using hk
      subst this
      exact ⟨_, _, hb, .inr rfl⟩
theorem At.apart {T E T' E' : TypeId} {B B' : Nat} {w : World} {g g' : Nat} {v v' : Value} {m m' : Int} {l l' : List H} (h : CacheAt T E B w g v m l) (h' : CacheAt T' E' B' w g' v' m' l') (h1 : T ≠ T') (h2 : T ≠ E') (h3 : E ≠ T') (h4 : E ≠ E') {k : Nat} (hk : At g v k) : ¬ At g' v' k := by
  intro hk'
  obtain ⟨cs, t, e, ht⟩ := At.typed h hk
  obtain ⟨cs', t', e', ht'⟩ := At.typed h' hk'
  rw [e] at e'
  simp at e'
  obtain ⟨_, rfl⟩ := e'
  rcases ht with rfl | rfl <;> rcases ht' with q | q
  · exact h1 q
  · exact h2 q
  · exact h3 q
  · exact h4 q
theorem CacheAt.beside {T E : TypeId} {B : Nat} {w w' : World} {g : Nat} {v : Value} {m : Int} {l : List H} {S : Nat → Prop} (h : CacheAt T E B w g v m l) (hk : Kept w w' S) (hd : ∀ k, At g v k → ¬ S k) : CacheAt T E B w' g v m l :=
  h.keep hk (hd g (.inl rfl)) (fun k e => hd k (.inr e))
/-- what deeds on both leave -/
def WentTwo (B : Nat) (w : World) (gc : Nat) (vc : Value) (gr : Nat) (vr : Value) (M : Nat) (l : List H) (w' : World) : Prop :=
  ∃ vc' vr', Two B w' gc vc' gr vr' M l ∧ Kept w w' (AtTwo gc vc gr vr) ∧ (∀ k, vc'.ownBlock = some k → vc.ownBlock = some k ∨ w.heap.size ≤ k) ∧ ∀ k, vr'.ownBlock = some k → vr.ownBlock = some k ∨ w.heap.size ≤ k
section
variable {B gc gr M : Nat} {vc vr : Value} {l : List H} {w w1 w2 : World}
theorem Two.fresh (h : Two B w gc vc gr vr M l) (hb : Below w.heap.size w w1) : Two B w1 gc vc gr vr M l := ⟨h.c.fresh hb, h.r.fresh hb, h.len, h.hM, Nat.le_trans h.base hb.size⟩
theorem Two.low (h : Two B w gc vc gr vr M l) : ∀ k, AtTwo gc vc gr vr k → B ≤ k := fun k q => by
  rcases q with q | q
  · exact h.c.low k q
  · exact h.r.low k q
theorem WentTwo.fresh (h : Two B w gc vc gr vr M l) (hb : Below w.heap.size w w1) : WentTwo B w gc vc gr vr M l w1 := ⟨vc, vr, h.fresh hb, Kept.fresh hb, fun _ e => .inl e, fun _ e => .inl e⟩
theorem WentTwo.below {l' : List H} (hT : Two B w gc vc gr vr M l) (h : WentTwo B w gc vc gr vr M l' w1) : Below B w w1 := by
  obtain ⟨vc', vr', _, k, _, _⟩ := h
  exact k.below hT.low hT.base
theorem WentTwo.from {l' : List H} (h : WentTwo B w1 gc vc gr vr M l' w2) (hb : Below w.heap.size w w1) : WentTwo B w gc vc gr vr M l' w2 := by
  obtain ⟨vc', vr', r, k, f1, f2⟩ := h
  refine ⟨vc', vr', r, (Kept.fresh hb : Kept w w1 (AtTwo gc vc gr vr)).trans k (fun _ q => .inl q), fun b e => ?_, fun b e => ?_⟩
  · rcases f1 b e with q | q
    · exact .inl q
    · exact .inr (Nat.le_trans hb.size q)
  · rcases f2 b e with q | q
    · exact .inl q
    · exact .inr (Nat.le_trans hb.size q)
/-- first the program's cache, then the document's -/
theorem WentTwo.both {l' : List H} (h : Two B w gc vc gr vr M l) (hl : l'.length ≤ M) (h1 : Went 69 66 B w gc vc M l' w1) (_h2 : ∀ {W}, CacheAt 77 102 B w1 gr vr M l → Went 77 102 B w1 gr vr M l' W → W = w2 → True) (h3 : Went 77 102 B w1 gr vr M l' w2) : WentTwo B w gc vc gr vr M l' w2 := by
  obtain ⟨vc', c1, k1, f1⟩ := h1
  obtain ⟨vr', r2, k2, f2⟩ := h3
  have hd : ∀ k, At gc vc' k → ¬ At gr vr k := fun k hk => by
    have hr1 : CacheAt 77 102 B w1 gr vr M l := h.r.beside k1 (fun k q => At.apart h.r h.c (by decide) (by decide) (by decide) (by decide) q)
    exact At.apart c1 hr1 (by decide) (by decide) (by decide) (by decide) hk
  refine ⟨vc', vr', ⟨c1.beside k2 hd, r2, hl, h.hM, Nat.le_trans h.base (Nat.le_trans k1.size k2.size)⟩, ?_, f1, fun b e => ?_⟩
  · exact (k1.more (S' := AtTwo gc vc gr vr) (fun b q => .inl (.inl q))).trans k2 (fun b q => .inl (.inr q))
  · rcases f2 b e with q | q
    · exact .inl q
    · exact .inr (Nat.le_trans k1.size q)
/-- the document's cache is as it was behind a call of the program's -/
theorem Two.stays {l' : List H} (h : Two B w gc vc gr vr M l) (h1 : Went 69 66 B w gc vc M l' w1) : CacheAt 77 102 B w1 gr vr M l := by
  obtain ⟨vc', c1, k1, f1⟩ := h1
  exact h.r.beside k1 (fun k q => At.apart h.r h.c (by decide) (by decide) (by decide) (by decide) q)
theorem Two.stays' {l' : List H} (h : Two B w gc vc gr vr M l) (h1 : Went 77 102 B w gr vr M l' w1) : CacheAt 69 66 B w1 gc vc M l := by
  obtain ⟨vr', c1, k1, f1⟩ := h1
  exact h.c.beside k1 (fun k q => At.apart h.c h.r (by decide) (by decide) (by decide) (by decide) q)
/-- first the document's cache, then the program's -/
theorem WentTwo.both' {l' : List H} (h : Two B w gc vc gr vr M l) (hl : l'.length ≤ M) (h1 : Went 77 102 B w gr vr M l' w1) (h3 : Went 69 66 B w1 gc vc M l' w2) : WentTwo B w gc vc gr vr M l' w2 := by
  have hc1 := h.stays' h1
  obtain ⟨vr', r1, k1, f1⟩ := h1
  obtain ⟨vc', c2, k2, f2⟩ := h3
  have hd : ∀ k, At gr vr' k → ¬ At gc vc k := fun k hk => At.apart r1 hc1 (by decide) (by decide) (by decide) (by decide) hk
  refine ⟨vc', vr', ⟨c2, r1.beside k2 hd, hl, h.hM, Nat.le_trans h.base (Nat.le_trans k1.size k2.size)⟩, ?_, fun b e => ?_, f1⟩
  · exact (k1.more (S' := AtTwo gc vc gr vr) (fun b q => .inl (.inr q))).trans k2 (fun b q => .inl (.inl q))
  · rcases f2 b e with q | q
    · exact .inl q
    · exact .inr (Nat.le_trans k1.size q)
end
def Quiet (w w' : World) : Prop := w'.heap = w.heap ∧ w'.os = w.os ∧ w'.tape = w.tape ∧ w'.output = w.output
theorem Quiet.below {w w' : World} (h : Quiet w w') : Below w.heap.size w w' := ⟨h.2.1, h.2.2.1, h.2.2.2, by rw [h.1]; exact Nat.le_refl _, fun _ _ => by rw [h.1]⟩
theorem Quiet.cell {w w' : World} (h : Quiet w w') (a : Addr) : w'.cell? a = w.cell? a := by simp [World.cell?, h.1]
set_option maxRecDepth 100000 in
set_option maxHeartbeats 1000000 in
/-- two slices of the same ints are the same -/
theorem same_ints (A1 A2 : Option Addr) (c1 c2 n1 n2 : Nat) (l : List Int) (w : World) (e1 : n1 = l.length) (e2 : n2 = l.length) (h1 : Ints w A1 l) (h2 : Ints w A2 l) (hl : l.length ≤ 100000) :
    Calls Try.prog 20 #[.slice A1 n1 c1, .slice A2 n2 c2] w fun e w' => e = .returned (.bool true) ∧ Below w.heap.size w w' := by
  subst e1 e2
  go_enter Try.func20, Try.ntmps20
  go_wp2
  go_loopw [5] (fun i wr => ∃ k : Nat, k ≤ l.length ∧ i = .int .i64 k ∧ Quiet w wr) (fun i _ => l.length - (intOf i).toNat)
  case atStart => exact ⟨0, Nat.zero_le _, rfl, rfl, rfl, rfl, rfl⟩
  case round =>
    obtain ⟨k, hk, rfl, hq⟩ := hrel
    rename World => wr
    by_cases hlt : k < l.length
    · have hlti : (k : Int) < (l.length : Int) := by omega
      have hk0 : (0 : Int) ≤ (k : Int) := by omega
      obtain ⟨b1, o1, rfl, _, e1⟩ := h1.at_ hlt
      obtain ⟨b2, o2, rfl, _, e2⟩ := h2.at_ hlt
      have e1' : wr.cell? ⟨b1, o1 + k, none⟩ = some (.int .i64 (nth l k)) := (hq.cell _).trans e1
      have e2' : wr.cell? ⟨b2, o2 + k, none⟩ = some (.int .i64 (nth l k)) := (hq.cell _).trans e2
      have Hq := Lib.hid hq
      clear hq
      go_wp2_with fail
      go_quiet (fail)
      go_wp2
      go_roundw
      case rel => exact ⟨k + 1, by omega, by go_num, ⟨Hq.out.1, Hq.out.2.1, Hq.out.2.2.1, Hq.out.2.2.2⟩⟩
      case measure => simp [intOf]; omega
    · have hlti : ¬ (k : Int) < (l.length : Int) := by omega
      go_wp2
      go_ret
      exact ⟨rfl, hq.below⟩
theorem Went.next {T E : TypeId} {B : Nat} {w w' : World} {g : Nat} {v : Value} {m : Int} {l l0 : List H} (h : Went T E B w g v m l w') (h0 : CacheAt T E B w g v m l0) (hB : B ≤ w.heap.size) : ∃ v', CacheAt T E B w' g v' m l ∧ Below B w w' ∧ B ≤ w'.heap.size := by
  obtain ⟨v', r, k, _⟩ := h
  exact ⟨v', r, k.below h0.low hB, Nat.le_trans hB k.size⟩
set_option maxRecDepth 100000 in
set_option maxHeartbeats 2000000 in
theorem live_any (w : World) : Calls Try.prog 12 #[] w fun e w' => e = .returned (.bool true) ∧ Below w.heap.size w w' := by
  have HN := Lib.hid (new_yes 2 w (by omega) (by omega))
  obtain ⟨L1, hL1⟩ : ∃ L, L = useL 2 [] 1 := ⟨_, rfl⟩
  obtain ⟨L2, hL2⟩ : ∃ L, L = useL 2 L1 2 := ⟨_, rfl⟩
  obtain ⟨L3, hL3⟩ : ∃ L, L = useL 2 L2 3 := ⟨_, rfl⟩
  have F1 : Hid (useG 2 [] 1 = -1 ∧ useE 2 [] 1 = 0 ∧ L1.length ≤ 2) := by unfold Hid; subst hL1; decide
  have F2 : Hid (L2.length ≤ 2) := by unfold Hid; subst hL2 hL1; decide
  have F3 : Hid (useG 2 L2 3 = 1 ∧ useE 2 L2 3 = 0 ∧ L3.length ≤ 2 ∧ has L3 3 = true ∧ has L3 1 = false ∧ pinE L3 3 true = 0 ∧ pinsN (pinL L3 3 true) 3 = 1 ∧ (pinL L3 3 true).length ≤ 2) := by unfold Hid; subst hL3 hL2 hL1; decide
  have F4 : Hid (Few 1000000 L3) := by
    subst hL3 hL2 hL1
    exact ((((show Few 1000000 ([] : List H) from fun _ h => by cases h).use (by omega) 2 1).use (by omega) 2 2).use (by omega) 2 3)
  have HL1 := Lib.hid hL1
  have HL2 := Lib.hid hL2
  have HL3 := Lib.hid hL3
  clear hL1 hL2 hL3
  go_enter Try.func12, Try.ntmps12
  go_wp2_with fail
  refine HN.out.mono ?_
  rintro e w1 ⟨rfl, hC1, hB1⟩
  have HC1 := Lib.hid hC1
  have HB1 := Lib.hid hB1
  clear hC1 hB1
  go_wp2_with fail
  refine (use_any w.heap.size w.heap.size 2 _ [] 1 w1 HC1.out (by simp) (by omega) HB1.out.size).mono ?_
  rintro e w2 ⟨rfl, hw2⟩
  obtain ⟨v2, hC2, hB2, hz2⟩ := hw2.next HC1.out HB1.out.size
  rw [← HL1.out] at hC2
  rw [F1.out.1, F1.out.2.1]
  have HC2 := Lib.hid hC2
  have HB2 := Lib.hid (HB1.out.trans hB2)
  clear hC2 hB2 hw2
  go_wp2_with fail
  refine (use_any w.heap.size w.heap.size 2 v2 L1 2 w2 HC2.out F1.out.2.2 (by omega) hz2).mono ?_
  rintro e w3 ⟨rfl, hw3⟩
  obtain ⟨v3, hC3, hB3, hz3⟩ := hw3.next HC2.out hz2
  rw [← HL2.out] at hC3
  have HC3 := Lib.hid hC3
  have HB3 := Lib.hid (HB2.out.trans hB3)
  clear hC3 hB3 hw3
  go_wp2_with fail
  refine (use_any w.heap.size w.heap.size 2 v3 L2 3 w3 HC3.out F2.out (by omega) hz3).mono ?_
  rintro e w4 ⟨rfl, hw4⟩
  obtain ⟨v4, hC4, hB4, hz4⟩ := hw4.next HC3.out hz3
  rw [← HL3.out] at hC4
  rw [F3.out.1, F3.out.2.1]
  have HC4 := Lib.hid hC4
  have HB4 := Lib.hid (HB3.out.trans hB4)
  have hl3 := F3.out.2.2.1
  clear hC4 hB4 hw4
  go_wp2_with fail
  refine (has_any w.heap.size w.heap.size v4 2 L3 3 w4 HC4.out (by omega)).mono ?_
  rintro e w5 ⟨rfl, hb5⟩
  rw [F3.out.2.2.2.1]
  have HC5 := Lib.hid (HC4.out.fresh hb5)
  have HB5 := Lib.hid (HB4.out.trans (hb5.mono hz4))
  have hz5 := HB5.out.size
  clear hb5
  go_wp2_with fail
  refine (has_any w.heap.size w.heap.size v4 2 L3 1 w5 HC5.out (by omega)).mono ?_
  rintro e w6 ⟨rfl, hb6⟩
  rw [F3.out.2.2.2.2.1]
  have HC6 := Lib.hid (HC5.out.fresh hb6)
  have HB6 := Lib.hid (HB5.out.trans (hb6.mono hz5))
  have hz6 := HB6.out.size
  clear hb6
  go_wp2_with fail
  refine (pin_any w.heap.size w.heap.size v4 2 L3 3 w6 true HC6.out (by omega) F4.out).mono ?_
  rintro e w7 ⟨rfl, hw7⟩
  obtain ⟨v7, hC7, hB7, hz7⟩ := hw7.next HC6.out hz6
  rw [F3.out.2.2.2.2.2.1]
  have HC7 := Lib.hid hC7
  have HB7 := Lib.hid (HB6.out.trans hB7)
  have hl7 := F3.out.2.2.2.2.2.2.2
  clear hC7 hB7 hw7
  go_wp2_with fail
  refine (pins_any w.heap.size w.heap.size v7 2 (pinL L3 3 true) 3 w7 HC7.out (by omega)).mono ?_
  rintro e w8 ⟨rfl, hb8⟩
  rw [F3.out.2.2.2.2.2.2.1]
  have HB8 := Lib.hid (HB7.out.trans (hb8.mono hz7))
  clear hb8
  go_wp2
  go_ret
  exact ⟨rfl, HB8.out⟩
end Go.Proofs.Ythibnnllecdpaaa
