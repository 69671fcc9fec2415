/- An engine in memory: its disk and its row, side by side. -/
import Derived.Test.YtegacggkdjgdiaaEF
set_option linter.unusedVariables false
set_option linter.unusedSimpArgs false
namespace Go.Proofs.Ytegacggkdjgdiaa
open Go.RowKit

/-- what the blocks of a disk are -/
theorem CodeAt.kinds {w : World} {g n c mb k : Nat} {S : Nat → Bk} {L : List Int} {B : List Bool} {D : DataW Value} {V : Nat → List Run} {A : Nat → Option Addr} {C : Nat → Nat} (h : CodeAt w g n S c L B mb k D V A C) :
    ∀ b, foot g n mb A b → (∃ cs t fr, w.heap[b]? = some (.cells cs t fr) ∧ (t = 81 ∨ t = 112)) ∨ ∃ es cl, w.heap[b]? = some (.map es cl) := by
  rintro b (rfl | rfl | ⟨j, hj, hb⟩)
  · exact .inl ⟨_, _, _, h.disk.blk, .inl rfl⟩
  · obtain ⟨es, clock, hm, _⟩ := h.map
    exact .inr ⟨es, clock, hm⟩
  · obtain ⟨cs, hc⟩ := h.row_typed hj hb
    exact .inl ⟨cs, _, _, hc, .inr rfl⟩
theorem Code.kinds {w : World} {g n c : Nat} {S : Nat → Bk} {F : Nat → Prop} (h : Code w g n S c F) :
    ∀ b, F b → (∃ cs t fr, w.heap[b]? = some (.cells cs t fr) ∧ (t = 81 ∨ t = 112)) ∨ ∃ es cl, w.heap[b]? = some (.map es cl) := by
  obtain ⟨L, B, mb, k, D, V, A, C, h, rfl⟩ := h
  exact h.kinds
theorem Code.not_type {w : World} {g n c : Nat} {S : Nat → Bk} {F : Nat → Prop} (h : Code w g n S c F) {b : Nat} {cs : Array Value} {t : TypeId} {fr : Nat × Nat} (hb : w.heap[b]? = some (.cells cs t fr)) (h1 : t ≠ 81) (h2 : t ≠ 112) : ¬ F b := by
  intro hf
  rcases h.kinds b hf with ⟨cs', t', fr', e, ht⟩ | ⟨es, cl, e⟩
  · rw [hb] at e
    simp at e
    obtain ⟨_, rfl, _⟩ := e
    rcases ht with q | q
    · exact h1 q
    · exact h2 q
  · rw [hb] at e; cases e
theorem Code.ni {w : World} {g n c : Nat} {S : Nat → Bk} {F : Nat → Prop} (h : Code w g n S c F) : NI w F := fun b hf cs fr e => h.not_type e (by decide) (by decide) hf
theorem RowW.typed {w : World} {B : Nat} {A : Option Addr} {c : Nat} {l : List Wr} (h : RowW w B A c l) {b : Nat} (hb : own A = some b) : ∃ cs, w.heap[b]? = some (.cells cs 90 (0, 0)) := by
  rcases h.row.2 with ⟨q, _⟩ | ⟨g, cap, cur, q, _, hg, _⟩
  · obtain ⟨rfl, _, _⟩ := Value.slice.inj q
    simp [own] at hb
  · obtain ⟨rfl, _, _⟩ := Value.slice.inj q
    simp [own] at hb
    subst hb
    exact ⟨_, hg⟩
theorem RowW.ni {w : World} {B : Nat} {A : Option Addr} {c : Nat} {l : List Wr} (h : RowW w B A c l) : NI w (fun b => own A = some b) := fun b hb cs fr e => by
  obtain ⟨cs', e'⟩ := h.typed hb
  rw [e'] at e
  simp at e

/-- an engine: its own block, its disk's, its row's -/
structure EngAt (w : World) (ge gd n : Nat) (S : Nat → Bk) (cc : Nat) (k : Int) (l : List Wr) (A : Option Addr) (c : Nat) (Fd : Nat → Prop) : Prop where
  head : HeadAt w ge gd k (.slice A l.length c)
  disk : Code w gd n S cc Fd
  row : RowW w 0 A c l
  asc : Asc l
  right : RightL l
  blk : ∀ x ∈ l, x.p.b < n
  lo : ∀ x ∈ l, 0 ≤ x.num ∧ x.num < k
  few : l.length ≤ 200
def footE (ge : Nat) (A : Option Addr) (Fd : Nat → Prop) : Nat → Prop := fun b => b = ge ∨ own A = some b ∨ Fd b
def Eng (w : World) (ge n : Nat) (S : Nat → Bk) (cc : Nat) (k : Int) (l : List Wr) (F : Nat → Prop) : Prop := ∃ gd A c Fd, EngAt w ge gd n S cc k l A c Fd ∧ F = footE ge A Fd
namespace EngAt
variable {w w' : World} {ge gd n cc c : Nat} {S : Nat → Bk} {k : Int} {l : List Wr} {A : Option Addr} {Fd : Nat → Prop}
theorem ge_fd (h : EngAt w ge gd n S cc k l A c Fd) : ¬ Fd ge := h.disk.not_type h.head.head (by decide) (by decide)
theorem row_fd (h : EngAt w ge gd n S cc k l A c Fd) : ∀ b, own A = some b → ¬ Fd b := fun b hb => by
  obtain ⟨cs, e⟩ := h.row.typed hb
  exact h.disk.not_type e (by decide) (by decide)
theorem row_ge (h : EngAt w ge gd n S cc k l A c Fd) : own A ≠ some ge := fun hb => by
  obtain ⟨cs, e⟩ := h.row.typed hb
  rw [h.head.head] at e
  simp at e
theorem ni (h : EngAt w ge gd n S cc k l A c Fd) : NI w (footE ge A Fd) := by
  rintro b (rfl | q | q)
  · exact h.head.ni b rfl
  · exact h.row.ni b q
  · exact h.disk.ni b q
theorem lt (h : EngAt w ge gd n S cc k l A c Fd) : ∀ b, footE ge A Fd b → b < w.heap.size := by
  rintro b (rfl | q | q)
  · exact h.head.lt
  · exact (h.row.lt b q).2
  · exact h.disk.lt b q
theorem keep {G : Nat → Prop} (h : EngAt w ge gd n S cc k l A c Fd) (hk : Kept w w' G) (hd : ∀ b, footE ge A Fd b → ¬ G b) (hG : NI w G) : EngAt w' ge gd n S cc k l A c Fd :=
  ⟨h.head.keep hk (hd ge (.inl rfl)), h.disk.keep hk (fun b q => hd b (.inr (.inr q))), h.row.keep hk hG (fun b q => hd b (.inr (.inl q))), h.asc, h.right, h.blk, h.lo, h.few⟩
theorem fresh (h : EngAt w ge gd n S cc k l A c Fd) (hb : Below w.heap.size w w') : EngAt w' ge gd n S cc k l A c Fd :=
  h.keep (G := fun _ => False) (Kept.fresh hb) (fun _ _ q => q) (NI.none w)
/-- its disk has turned -/
theorem disked {S' : Nat → Bk} {cc' : Nat} {Fd' : Nat → Prop} (h : EngAt w ge gd n S cc k l A c Fd) (hk : Kept w w' Fd) (hc : Code w' gd n S' cc' Fd') : EngAt w' ge gd n S' cc' k l A c Fd' :=
  ⟨h.head.keep hk h.ge_fd, hc, h.row.keep hk h.disk.ni h.row_fd, h.asc, h.right, h.blk, h.lo, h.few⟩
/-- the row may bear other flags: it lies in a block of its own -/
theorem rowed {l' : List Wr} {A' : Option Addr} {c' : Nat} (h : EngAt w ge gd n S cc k l A c Fd) (hk : Kept w w' (fun b => own A = some b ∨ b = ge)) (hh : HeadAt w' ge gd k (.slice A' l'.length c')) (hr : RowW w' 0 A' c' l') (h1 : Asc l') (h2 : RightL l') (h3 : ∀ x ∈ l', x.p.b < n) (h4 : ∀ x ∈ l', 0 ≤ x.num ∧ x.num < k) (h5 : l'.length ≤ 200) : EngAt w' ge gd n S cc k l' A' c' Fd :=
  ⟨hh, h.disk.keep hk (fun b q1 q2 => by rcases q2 with q2 | q2; exact h.row_fd b q2 q1; subst q2; exact h.ge_fd q1), hr, h1, h2, h3, h4, h5⟩
end EngAt
theorem Eng.lt {w : World} {ge n cc : Nat} {S : Nat → Bk} {k : Int} {l : List Wr} {F : Nat → Prop} (h : Eng w ge n S cc k l F) : ∀ b, F b → b < w.heap.size := by
  obtain ⟨gd, A, c, Fd, h, rfl⟩ := h; exact h.lt
theorem Eng.ni {w : World} {ge n cc : Nat} {S : Nat → Bk} {k : Int} {l : List Wr} {F : Nat → Prop} (h : Eng w ge n S cc k l F) : NI w F := by
  obtain ⟨gd, A, c, Fd, h, rfl⟩ := h; exact h.ni
theorem Eng.keep {w w' : World} {ge n cc : Nat} {S : Nat → Bk} {k : Int} {l : List Wr} {F G : Nat → Prop} (h : Eng w ge n S cc k l F) (hk : Kept w w' G) (hd : ∀ b, F b → ¬ G b) (hG : NI w G) : Eng w' ge n S cc k l F := by
  obtain ⟨gd, A, c, Fd, h, rfl⟩ := h; exact ⟨gd, A, c, Fd, h.keep hk hd hG, rfl⟩
theorem Eng.fresh {w w' : World} {ge n cc : Nat} {S : Nat → Bk} {k : Int} {l : List Wr} {F : Nat → Prop} (h : Eng w ge n S cc k l F) (hb : Below w.heap.size w w') : Eng w' ge n S cc k l F :=
  h.keep (G := fun _ => False) (Kept.fresh hb) (fun _ _ q => q) (NI.none w)
theorem Code.mono' {w : World} {d n c c' : Nat} {S : Nat → Bk} {F : Nat → Prop} (h : Code w d n S c F) (hc : c ≤ c') : Code w d n S c' F := by
  obtain ⟨L, B, mb, k, D, V, A, C, h, rfl⟩ := h
  exact ⟨L, B, mb, k, D, V, A, C, ⟨h.disk, h.map, Nat.le_trans h.kc hc, h.keys, h.here, h.gone, h.row, h.ok, h.sec, h.bad, h.ver, fun j hj => Nat.le_trans (h.few j hj) hc, h.apart⟩, rfl⟩
theorem Eng.mono {w : World} {ge n cc cc' : Nat} {S : Nat → Bk} {k : Int} {l : List Wr} {F : Nat → Prop} (h : Eng w ge n S cc k l F) (hc : cc ≤ cc') : Eng w ge n S cc' k l F := by
  obtain ⟨gd, A, c, Fd, h, rfl⟩ := h; exact ⟨gd, A, c, Fd, ⟨h.head, h.disk.mono' hc, h.row, h.asc, h.right, h.blk, h.lo, h.few⟩, rfl⟩
theorem Eng.ptr {w : World} {ge n cc : Nat} {S : Nat → Bk} {k : Int} {l : List Wr} {F : Nat → Prop} (h : Eng w ge n S cc k l F) : F ge := by
  obtain ⟨gd, A, c, Fd, h, rfl⟩ := h; exact .inl rfl
theorem Went.mono' {w w' : World} {F : Nat → Prop} {Q Q' : (Nat → Prop) → Prop} (h : Went w w' F Q) (hq : ∀ F', Q F' → Q' F') : Went w w' F Q' := by
  obtain ⟨F', h1, h2, h3⟩ := h
  exact ⟨F', hq _ h1, h2, h3⟩
theorem Went.of_below' {w w' : World} {F : Nat → Prop} {Q : (Nat → Prop) → Prop} (h : Q F) (hB : Below w.heap.size w w') : Went w w' F Q := ⟨F, h, Kept.fresh hB, fun _ e => .inl e⟩
theorem Went.pre {w w1 w2 : World} {F : Nat → Prop} {Q : (Nat → Prop) → Prop} (hB : Below w.heap.size w w1) (h : Went w1 w2 F Q) : Went w w2 F Q := by
  obtain ⟨F', h1, h2, h3⟩ := h
  exact ⟨F', h1, (Kept.fresh (S := F) hB).trans h2 (fun _ q => .inl q), fun b q => (h3 b q).imp id (fun q => by have := hB.size; omega)⟩
theorem Went.post {w w1 w2 : World} {F : Nat → Prop} {Q Q' : (Nat → Prop) → Prop} (h : Went w w1 F Q) (hB : Below w1.heap.size w1 w2) (hq : ∀ F', Q F' → Q' F') : Went w w2 F Q' := by
  obtain ⟨F', h1, h2, h3⟩ := h
  exact ⟨F', hq _ h1, h2.trans (Kept.fresh (S := F) hB) (fun _ q => .inl q), h3⟩
/-- of an engine, by what its disk's call leaves -/
theorem EngAt.of_disk {w w' : World} {ge gd n cc cc' c : Nat} {S S' : Nat → Bk} {k : Int} {l : List Wr} {A : Option Addr} {Fd : Nat → Prop} (h : EngAt w ge gd n S cc k l A c Fd) (hw : Went w w' Fd (Code w' gd n S' cc')) :
    Went w w' (footE ge A Fd) (Eng w' ge n S' cc' k l) := by
  obtain ⟨Fd', h1, h2, h3⟩ := hw
  refine ⟨footE ge A Fd', ⟨gd, A, c, Fd', h.disked h2 h1, rfl⟩, h2.more (fun b q => .inl (.inr (.inr q))), ?_⟩
  rintro b (q | q | q)
  · exact .inl (.inl q)
  · exact .inl (.inr (.inl q))
  · exact (h3 b q).imp (fun q => .inr (.inr q)) id

section
variable {w : World} {ge n cc : Nat} {S : Nat → Bk} {k : Int} {l : List Wr} {F : Nat → Prop}
set_option maxRecDepth 100000 in
set_option maxHeartbeats 1000000 in
theorem ask_engine (h : Eng w ge n S cc k l F) (i : Int) : Calls Try.prog 37 #[.pointer (some ⟨ge, 0, none⟩), .int .i64 i] w fun e w' => e = .returned (.int .i64 (if 0 ≤ i ∧ i < n then 0 else 2)) ∧ Below w.heap.size w w' := by
  obtain ⟨gd, A, c, Fd, h, rfl⟩ := h
  have e0 := h.head.c0
  have hge := h.head.lt
  have core : ∀ (s : List Int) (r : Int), s.length = 32 → (Calls Try.prog 30 #[.pointer (some ⟨gd, 0, none⟩), .int .i64 i] w fun e w' => e = .returned (.tuple #[secV s, .int .i64 r]) ∧ Below w.heap.size w w') →
      Calls Try.prog 37 #[.pointer (some ⟨ge, 0, none⟩), .int .i64 i] w fun e w' => e = .returned (.int .i64 r) ∧ Below w.heap.size w w' := by
    intro s r hsl hC
    have HL := Lib.hid hC
    have hsz2 : Hid ((Try.prog.info? 65).map (·.size) = some (bytesV s).toArray.size) := by unfold Hid; rw [List.size_toArray, length_bytesV, hsl]; exact size36
    have hone : Hid ((bytesV s).toArray.all (·.oneCell') = true) := all_oneCell_toArray (bytesV_one _)
    have hold : Hid (32 = (bytesV s).toArray.size) := by unfold Hid; rw [List.size_toArray, length_bytesV, hsl]
    unfold secV at HL
    obtain ⟨R0, hR0⟩ : ∃ R0, R0 = (bytesV s).toArray := ⟨_, rfl⟩
    rw [← hR0] at HL hsz2 hone hold
    clear hC hsl hR0 h
    go_enter Try.func37, Try.ntmps37
    go_wp2_with (first
      | (go_at_call 30; refine HL.out.mono ?_; rintro e w1 ⟨rfl, hb1⟩; have HB1 := Lib.hid hb1; clear hb1)
      | (refine wpList_store_row rfl 65 (.tmp 5) (.tmp 17) rfl w1.heap.size R0 rfl rfl 65 _ (heap_alloc_new w1 _) hsz2.out hold.out hone.out ?_; generalize hW : World.setRow (w1.alloc (Obj.cells _ 65)) _ R0 = w2; have HB2 : Hid (Below w.heap.size w w2) := (by rw [← hW]; exact HB1.out.trans ((below_setRow (below_alloc1 w1 _) (Nat.le_refl _) _).mono HB1.out.size)); clear hW))
    go_ret
    exact ⟨rfl, HB2.out⟩
  by_cases hi : 0 ≤ i ∧ i < n
  · rw [if_pos hi]
    obtain ⟨j, rfl⟩ : ∃ j : Nat, i = (j : Int) := ⟨i.toNat, by omega⟩
    exact core _ 0 (h.disk.okS (by omega)).1 (clast h.disk (by omega))
  · rw [if_neg hi]
    exact core _ 2 noSec_len (clast_no h.disk i hi)
theorem ask_none (i : Int) (w : World) : Calls Try.prog 37 #[.pointer none, .int .i64 i] w fun e w' => e = .returned (.int .i64 1) ∧ w = w' := by
  go_enter Try.func37, Try.ntmps37
  go_wp2
  go_ret
  exact ⟨rfl, rfl⟩
theorem enext (h : Eng w ge n S cc k l F) : Calls Try.prog 23 #[.pointer (some ⟨ge, 0, none⟩)] w fun e w' => e = .returned (.int .i64 k) ∧ w = w' := by
  obtain ⟨gd, A, c, Fd, h, rfl⟩ := h
  have e1 := h.head.c1
  clear h
  go_enter Try.func23, Try.ntmps23
  go_wp2
  go_ret
  exact ⟨rfl, rfl⟩
theorem esize (h : Eng w ge n S cc k l F) : Calls Try.prog 14 #[.pointer (some ⟨ge, 0, none⟩)] w fun e w' => e = .returned (.int .i64 n) ∧ w = w' := by
  obtain ⟨gd, A, c, Fd, h, rfl⟩ := h
  have e0 := h.head.c0
  have HS := Lib.hid (csize h.disk)
  clear h
  go_enter Try.func14, Try.ntmps14
  go_wp2_with (refine HS.out.mono ?_; rintro e w' ⟨rfl, rfl⟩)
  go_ret
  exact ⟨rfl, rfl⟩
end
theorem espoil {w : World} {ge n cc : Nat} {S : Nat → Bk} {k : Int} {l : List Wr} {F : Nat → Prop} (h : Eng w ge n S cc k l F) {i : Nat} (hi : i < n) (b : Bool) :
    Calls Try.prog 27 #[.pointer (some ⟨ge, 0, none⟩), .int .i64 (i : Int), .bool b] w fun e w' => e = .returned (.int .i64 0) ∧ Went w w' F (Eng w' ge n (upd S i ⟨(S i).s, (S i).v, b⟩) cc k l) := by
  obtain ⟨gd, A, c, Fd, h, rfl⟩ := h
  have e0 := h.head.c0
  have HS := Lib.hid (cspoil h.disk hi b)
  have HH := Lib.hid h
  clear h
  go_enter Try.func27, Try.ntmps27
  go_wp2_with (refine HS.out.mono ?_; rintro e w' ⟨rfl, hw⟩; have HW := Lib.hid hw; clear hw)
  go_ret
  exact ⟨rfl, HH.out.of_disk HW.out⟩
theorem espoil_no {w : World} {ge n cc : Nat} {S : Nat → Bk} {k : Int} {l : List Wr} {F : Nat → Prop} (h : Eng w ge n S cc k l F) (i : Int) (hi : ¬ (0 ≤ i ∧ i < n)) (b : Bool) :
    Calls Try.prog 27 #[.pointer (some ⟨ge, 0, none⟩), .int .i64 i, .bool b] w fun e w' => e = .returned (.int .i64 2) ∧ w = w' := by
  obtain ⟨gd, A, c, Fd, h, rfl⟩ := h
  have e0 := h.head.c0
  have HS := Lib.hid (cspoil_no h.disk i hi b)
  clear h
  go_enter Try.func27, Try.ntmps27
  go_wp2_with (refine HS.out.mono ?_; rintro e w' ⟨rfl, rfl⟩)
  go_ret
  exact ⟨rfl, rfl⟩
end Go.Proofs.Ytegacggkdjgdiaa
