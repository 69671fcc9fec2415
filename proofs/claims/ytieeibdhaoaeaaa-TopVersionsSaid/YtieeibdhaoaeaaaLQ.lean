/- Bytes that came in; rows of sectors that are built; what the law of the loads holds of both disks. -/
import Derived.Test.YtieeibdhaoaeaaaRL
set_option linter.unusedVariables false
set_option linter.unusedSimpArgs false
namespace Go.Proofs.Ytieeibdhaoaeaaa
open Go.RowKit Go.ChangeShapes Go.WideShapes Go.ChangeAt

/-- bytes that came in -/
def ByIn (w : World) (a : Option Addr) (len cap : Nat) (l : List Int) : Prop := l.length = len ∧ len ≤ cap ∧ cap ≤ maxLen ∧ (∀ y ∈ l, 0 ≤ y ∧ y ≤ 255) ∧
  (0 < l.length → ∃ b off, a = some ⟨b, off, none⟩ ∧ b < w.heap.size ∧ ∀ j, j < l.length → w.cell? ⟨b, off + j, none⟩ = some (.int .u8 (l.getD j 0)))
section
variable {H' : Type} {enc : TypeId × Value → H'} {w : World} {base : Nat} {spare : Nat → Bool} {held : Bool}
theorem open_bytes {a : Option Addr} {len cap : Nat} {d : DataW H'} {pl : List MemPlace} (h : DataW.Trod enc Try.prog w base spare held 50 (.slice a len cap) d pl) : ∃ l, ByIn w a len cap l := by
  obtain ⟨fuel, hf⟩ := h
  rcases open_ints Try.underlying50 Try.underlying5 (by kernel_rfl) hf with ⟨hcs, _⟩ | ⟨x, l, c, zs, hcs, _, hl, hm, hz, _, hcell, hwz⟩
  · simp [Value.cells] at hcs
    obtain ⟨rfl, rfl, rfl⟩ := hcs
    exact ⟨[], rfl, Nat.le_refl _, Nat.zero_le _, (fun y hy => (by cases hy)), (fun h => absurd h (by simp))⟩
  · simp [Value.cells] at hcs
    obtain ⟨rfl, rfl, rfl⟩ := hcs
    have hzl : len ≤ zs.length := by rw [hz]; split <;> omega
    refine ⟨zs.take len, by rw [List.length_take]; omega, hl, hm, fun y hy => bounds_u8 (hwz y (List.mem_of_mem_take hy)), fun hp => ?_⟩
    have hp' : 0 < len := by rw [List.length_take] at hp; omega
    obtain ⟨b, off, spot⟩ := x
    have hc0 := hcell 0 (by omega)
    have hspot : spot = none := by simpa [Addr.add] using World.cell?_spot hc0
    subst hspot
    refine ⟨b, off, rfl, lt_of_cell (by simpa [Addr.add] using hc0), fun j hj => ?_⟩
    rw [List.length_take] at hj
    have hcj := hcell j (by omega)
    rw [add_plain'] at hcj
    rw [hcj]
    rw [List.getD_eq_getElem?_getD, List.getD_eq_getElem?_getD, List.getElem?_take, if_pos (by omega)]
end
theorem info36b : (Try.prog.info? 36).map (fun i => (i.zero, i.size, i.bytes)) = some (some (.agg (bytesV (List.replicate 32 0)).toArray), 32, 32) := by kernel_rfl
theorem wpList_sliceE {P : Program} {ops : Array Oper} {rest : List Oper} {o : Oper} {a : Act} {w : World} {Q : Exit → Act → World → Prop} (hgd : o.guard = none) (x : Operand) (t e : TypeId) (ht : P.underlying t = some (.slice e)) (ho : o.op = .buildSlice t 1 #[(0, x)]) (R : Array Value) (hx : a.eval x = .agg R)
    (i0 : TypeInfo) (hi : P.info? e = some i0) (hz : i0.zero = some (.agg (bytesV (List.replicate 32 0)).toArray)) (hs : i0.size = 32)
    (hf : Instr.fill (fun i => some (i * 32, 32)) ((Array.range 32).map ((bytesV (List.replicate 32 0)).toArray[· % 32]!)) [(0, .agg R)] = some R)
    (h : wpList P ops Q rest (a.put o.dst (.slice (some ⟨w.heap.size, 0, none⟩) 1 1)) (w.alloc (.cells R e))) : wpList P ops Q (o :: rest) a w :=
  wpList_plain hgd fun _ hK => by
    refine wp_buildSlice t e 1 #[(0, x)] ho R i0 _ ht hi hz (by rw [hs]; decide) (by rw [hs]; decide) ?_ (hK _ _ h)
    rw [hs]
    simpa [hx, Value.cells, bytesV] using hf
theorem rows_apart {w : World} {B : Nat} {v v' : Value} {n n' : Nat} {xs xs' : List Value} (h : w.ownsRow B 36 32 v n xs) (h' : w.ownsRow B 53 32 v' n' xs') : ∀ k, v.ownBlock = some k → v'.ownBlock ≠ some k := by
  intro k hk hk'
  rcases h.2 with ⟨rfl, _⟩ | ⟨g, cap, cur, rfl, _, hg, _⟩
  · cases hk
  · rcases h'.2 with ⟨rfl, _⟩ | ⟨g', cap', cur', rfl, _, hg', _⟩
    · cases hk'
    · have e1 : g = k := by simpa [Value.ownBlock] using hk
      have e2 : g' = k := by simpa [Value.ownBlock] using hk'
      rw [e1] at hg
      rw [e2, hg] at hg'
      simp at hg'
theorem flat_next (zs : List Int) {k : Nat} (hk : k < zs.length) : bytesV (flatU (zs.take k)) ++ bytesV (uniS (zs.getD k 0)) = bytesV (flatU (zs.take (k + 1))) := by
  rw [List.take_succ_eq_append_getElem hk, List.getD_eq_getElem?_getD, List.getElem?_eq_getElem hk]
  unfold flatU bytesV
  rw [List.flatMap_append, List.map_append, List.flatMap_cons, List.flatMap_nil, List.append_nil]
  rfl
/-- rows of sectors under way, one for each disk -/
def LdS (w wr : World) (zs : List Int) (v5 v6 : Value) (k : Nat) : Prop := ∃ A c A' c', v5 = .slice A k c ∧ v6 = .slice A' k c' ∧ wr.ownsRow w.heap.size 36 32 (.slice A k c) k (bytesV (flatU (zs.take k))) ∧ wr.ownsRow w.heap.size 53 32 (.slice A' k c') k (bytesV (flatU (zs.take k))) ∧ Below w.heap.size w wr
theorem row_fresh {w W : World} {B : Nat} {e : TypeId} {v : Value} {n : Nat} {xs : List Value} (h : w.ownsRow B e 32 v n xs) (hB : Below w.heap.size w W) : W.ownsRow B e 32 v n xs := (Kept.fresh (S := fun _ => False) hB).row h (fun _ _ q => q)
theorem row_grown {w W : World} {B : Nat} {e : TypeId} {v v' : Value} {n : Nat} {xs : List Value} (h : w.ownsRow B e 32 v n xs) (hg : w.grownBy W v'.ownBlock) (hd : ∀ k, v'.ownBlock = some k → v.ownBlock ≠ some k) : W.ownsRow B e 32 v n xs :=
  (Kept.grown (S := fun b => v'.ownBlock = some b) hg (fun k e => .inl e)).row h (fun k e q => hd k q e)
theorem cload_row {zs : List Int} {B c : Nat} {A : Option Addr} (h0 : 1 ≤ zs.length) (h1 : zs.length ≤ 96) (ha : ∀ z ∈ zs, 0 ≤ z ∧ z ≤ 255) (w : World) (hr : w.ownsRow B 36 32 (.slice A zs.length c) zs.length (bytesV (flatU zs))) :
    Calls Try.prog 24 #[.slice A zs.length c] w fun e w' => ∃ d, e = .returned (.pointer (some ⟨d, 0, none⟩)) ∧ (∃ F, Code w' d zs.length (loadS zs) 0 F ∧ ∀ b, F b → w.heap.size ≤ b) ∧ Below w.heap.size w w' := by
  have hs := (row_src hr).1
  have hlt := hr.lt
  rcases hr.2 with ⟨_, e⟩ | ⟨k, cap, cur, e, _⟩
  · omega
  · obtain ⟨rfl, _, _⟩ := Value.slice.inj e
    refine (cload h0 h1 ha k c w (fun j u hj => ?_) (hlt k rfl).2).mono ?_
    · have := hs _ rfl j u hj
      rw [add_plain'] at this
      exact this
    · rintro e w' ⟨rfl, h⟩
      exact ⟨_, rfl, h⟩
theorem rload_row {zs : List Int} {B c : Nat} {A : Option Addr} (h0 : 1 ≤ zs.length) (h1 : zs.length ≤ 96) (ha : ∀ z ∈ zs, 0 ≤ z ∧ z ≤ 255) (w : World) (hr : w.ownsRow B 53 32 (.slice A zs.length c) zs.length (bytesV (flatU zs))) :
    Calls Try.prog 25 #[.slice A zs.length c] w fun e w' => ∃ g, e = .returned (.pointer (some ⟨g, 0, none⟩)) ∧ (∃ F, Ref w' g zs.length (loadS zs) 0 F ∧ ∀ b, F b → w.heap.size ≤ b) ∧ Below w.heap.size w w' := by
  have hs := (row_src hr).1
  have hlt := hr.lt
  rcases hr.2 with ⟨_, e⟩ | ⟨k, cap, cur, e, _⟩
  · omega
  · obtain ⟨rfl, _, _⟩ := Value.slice.inj e
    refine rload h0 h1 ha k c w (fun j u hj => ?_) (hlt k rfl).2
    have := hs _ rfl j u hj
    rw [add_plain'] at this
    exact this
/-- both disks as loaded -/
def OwnL (w wr : World) (d r n : Nat) : Prop := ∃ S F, Both wr d r n S 0 F ∧ Below w.heap.size w wr
theorem OwnL.live {w w1 : World} {d r n : Nat} (H : OwnL w w1 d r n) : Calls Try.prog 13 #[] w1 fun e w' => e = .returned (.bool true) ∧ OwnL w w' d r n := by
  obtain ⟨S, F, h1, h2⟩ := H
  refine (live_any w1).mono ?_
  rintro e w' ⟨rfl, hB⟩
  exact ⟨rfl, S, F, h1.fresh hB, h2.trans (hB.mono h2.size)⟩
theorem OwnL.same {w w1 : World} {d r n : Nat} (H : OwnL w w1 d r n) : Calls Try.prog 14 #[.pointer (some ⟨d, 0, none⟩), .pointer (some ⟨r, 0, none⟩)] w1 fun e w' => e = .returned (.bool true) ∧ Below w.heap.size w w' := by
  obtain ⟨S, F, h1, h2⟩ := H
  refine (same_any h1 (by decide)).mono ?_
  rintro e w' ⟨rfl, hB⟩
  exact ⟨rfl, h2.trans (hB.mono h2.size)⟩
/-- the program's disk as loaded, and the row for the other one -/
def HalfL (w wr : World) (zs : List Int) (d n : Nat) (v6 : Value) : Prop := ∃ F, Code wr d n (loadS zs) 0 F ∧ wr.ownsRow w.heap.size 53 32 v6 n (bytesV (flatU zs)) ∧ Below w.heap.size w wr
theorem LdS.load1 {w w1 : World} {zs : List Int} {v5 v6 : Value} {n : Nat} (hn : n = zs.length) (h0 : 1 ≤ n) (h1 : n ≤ 96) (ha : ∀ z ∈ zs, 0 ≤ z ∧ z ≤ 255) (H : LdS w w1 zs v5 v6 n) :
    Calls Try.prog 24 #[v5] w1 fun e w' => ∃ d, e = .returned (.pointer (some ⟨d, 0, none⟩)) ∧ HalfL w w' zs d n v6 := by
  subst hn
  obtain ⟨A, c, A', c', rfl, rfl, r5, r6, hB⟩ := H
  rw [List.take_length] at r5 r6
  refine (cload_row h0 h1 ha w1 r5).mono ?_
  rintro e w' ⟨d, rfl, ⟨F, hF, _⟩, hB'⟩
  exact ⟨d, rfl, F, hF, row_fresh r6 hB', hB.trans (hB'.mono hB.size)⟩
theorem HalfL.load2 {w w1 : World} {zs : List Int} {v6 : Value} {d n : Nat} (hn : n = zs.length) (h0 : 1 ≤ n) (h1 : n ≤ 96) (ha : ∀ z ∈ zs, 0 ≤ z ∧ z ≤ 255) (H : HalfL w w1 zs d n v6) :
    Calls Try.prog 25 #[v6] w1 fun e w' => ∃ r, e = .returned (.pointer (some ⟨r, 0, none⟩)) ∧ OwnL w w' d r n := by
  subst hn
  obtain ⟨F, h, r6, hB⟩ := H
  obtain ⟨A', c', rfl⟩ := own_form r6
  refine (rload_row h0 h1 ha w1 r6).mono ?_
  rintro e w' ⟨r, rfl, ⟨F2, hF, hf⟩, hB'⟩
  refine ⟨r, rfl, _, _, ⟨F, F2, h.fresh hB', hF, fun b q1 q2 => ?_, rfl⟩, hB.trans (hB'.mono hB.size)⟩
  have := h.lt b q1
  have := hf b q2
  omega
theorem LdS.bad1 {w w1 : World} {zs : List Int} {v5 v6 : Value} {n : Nat} (h : n < 1 ∨ 96 < n) (H : LdS w w1 zs v5 v6 n) : Calls Try.prog 24 #[v5] w1 fun e w' => e = .returned (.pointer none) ∧ w1 = w' := by
  obtain ⟨A, c, A', c', rfl, rfl, _⟩ := H
  exact cload_bad A n c h w1
theorem LdS.bad2 {w w1 : World} {zs : List Int} {v5 v6 : Value} {n : Nat} (h : n < 1 ∨ 96 < n) (H : LdS w w1 zs v5 v6 n) : Calls Try.prog 25 #[v6] w1 fun e w' => e = .returned (.pointer none) ∧ w1 = w' := by
  obtain ⟨A, c, A', c', rfl, rfl, _⟩ := H
  exact rload_bad A' n c' h w1
theorem cnew_any {m : Int} (h0 : 1 ≤ m) (h1 : m ≤ 96) (w : World) : Calls Try.prog 26 #[.int .i64 m] w fun e w' => ∃ p, e = .returned (.pointer (some ⟨p, 0, none⟩)) ∧ Below w.heap.size w w' := by
  refine (cnew h0 h1 w).mono ?_
  rintro e w' ⟨rfl, _, hB⟩
  exact ⟨_, rfl, hB⟩
end Go.Proofs.Ytieeibdhaoaeaaa
