/- A deed on both caches. -/
import Derived.Test.YthibnnllecdpaaaV
namespace Go.Proofs.Ythibnnllecdpaaa
open Go.RowKit

/-- the row behind a deed -/
def doL (M : Nat) (l : List H) (k b : Int) (o : Bool) : List H :=
  if k = 0 then useL M l b else if k = 1 then pinL l b o else if k = 2 then dirtyL l b o else if k = 3 then dropL l b else l
theorem length_doL {M : Nat} {l : List H} (h : l.length ≤ M) (k b : Int) (o : Bool) : (doL M l k b o).length ≤ M := by
  unfold doL
  split
  · exact length_useL h
  · split
    · rw [length_pinL]; exact h
    · split
      · rw [length_dirtyL]; exact h
      · split
        · exact Nat.le_trans (length_dropL l b) h
        · exact h
theorem few_doL {M : Nat} {n : Int} {l : List H} (h : Few n l) (hn : 0 ≤ n) (k b : Int) (o : Bool) : Few (n + 1) (doL M l k b o) := by
  unfold doL
  split
  · exact (h.use hn M b).more (by omega)
  · split
    · exact h.pinned hn b o
    · split
      · exact (h.dirtied hn b o).more (by omega)
      · split
        · exact (h.dropped b).more (by omega)
        · exact h.more (by omega)
theorem nodup_doL {M : Nat} {l : List H} (h : (blocks l).Nodup) (k b : Int) (o : Bool) : (blocks (doL M l k b o)).Nodup := by
  unfold doL
  split
  · exact nodup_use h
  · split
    · exact nodup_pin h
    · split
      · exact nodup_dirty h
      · split
        · exact nodup_drop h
        · exact h
theorem Went.cell {T E : TypeId} {B : Nat} {w w' : World} {g : Nat} {v : Value} {m : Int} {l : List H} (h : Went T E B w g v m l w') {a : Addr} (hlt : a.block < w.heap.size) (hn : ¬ At g v a.block) : w'.cell? a = w.cell? a := by
  obtain ⟨v', _, k, _⟩ := h
  exact k.cell hlt hn
theorem Went.size {T E : TypeId} {B : Nat} {w w' : World} {g : Nat} {v : Value} {m : Int} {l : List H} (h : Went T E B w g v m l w') : w.heap.size ≤ w'.heap.size := by
  obtain ⟨v', _, k, _⟩ := h
  exact k.size
theorem CacheAt.notAt {T E : TypeId} {B : Nat} {w : World} {g : Nat} {v : Value} {m : Int} {l : List H} (h : CacheAt T E B w g v m l) : ¬ At g v w.heap.size := by
  rintro (q | q)
  · have := h.glt; omega
  · have := (h.row.lt _ q).2; omega
def D3 (w : World) (p : Nat) (k b : Int) (o : Bool) : Prop := w.cell? ⟨p, 0, none⟩ = some (.int .i64 k) ∧ w.cell? ⟨p, 1, none⟩ = some (.int .i64 b) ∧ w.cell? ⟨p, 2, none⟩ = some (.bool o)
theorem D3.went {T E : TypeId} {B : Nat} {w w' : World} {g p : Nat} {v : Value} {m : Int} {l : List H} {k b : Int} {o : Bool} (hd : D3 w p k b o) (h : Went T E B w g v m l w') (hlt : p < w.heap.size) (hn : ¬ At g v p) : D3 w' p k b o :=
  ⟨(h.cell (a := ⟨p, 0, none⟩) hlt hn).trans hd.1, (h.cell (a := ⟨p, 1, none⟩) hlt hn).trans hd.2.1, (h.cell (a := ⟨p, 2, none⟩) hlt hn).trans hd.2.2⟩
theorem D3.new (w : World) (k b : Int) (o : Bool) : D3 (w.alloc (.cells #[.int .i64 k, .int .i64 b, .bool o] 50)) w.heap.size k b o :=
  ⟨cell_of_row _ _ 0 _ 50 (0, 0) (heap_alloc_new w _), cell_of_row _ _ 1 _ 50 (0, 0) (heap_alloc_new w _), cell_of_row _ _ 2 _ 50 (0, 0) (heap_alloc_new w _)⟩
section
variable (B gc gr M : Nat) (vc vr : Value) (l : List H) (w : World)
set_option maxRecDepth 100000 in
set_option maxHeartbeats 1000000 in
theorem do_use (b : Int) (o : Bool) (h : Two B w gc vc gr vr M l) :
    Calls Try.prog 25 #[.pointer (some ⟨gc, 0, none⟩), .pointer (some ⟨gr, 0, none⟩), .agg #[.int .i64 0, .int .i64 b, .bool o]] w fun e w' => e = .returned (.bool true) ∧ WentTwo B w gc vc gr vr M (useL M l b) w' := by
  have hB0 : Below w.heap.size w (w.alloc (.cells #[.int .i64 0, .int .i64 b, .bool o] 50)) := (Below.refl _ _).alloc (Nat.le_refl _) _
  have H0 := Lib.hid (h.fresh hB0)
  have HB0 := Lib.hid hB0
  have hd := D3.new w 0 b o
  have Hd := Lib.hid hd
  have hn1 := Lib.hid h.c.notAt
  have hn2 := Lib.hid h.r.notAt
  have hgc := h.c.glt
  have hgr := h.r.glt
  have HU := Lib.hid (use_any B gc M vc l b _ H0.out.c h.len h.hM H0.out.base)
  have HR := Lib.hid (fun W (hr : CacheAt 77 102 B W gr vr M l) hB => ruse_any B gr M vr l b W hr h.len h.hM hB)
  have Hl := Lib.hid (length_useL (x := b) h.len)
  clear h hd hB0
  generalize useG M l b = G at HU HR
  generalize useE M l b = E at HU HR
  go_enter Try.func25, Try.ntmps25
  go_wp2_with (first
    | (go_at_call 14; (with_reducible refine HU.out.mono ?_); rintro e w1 ⟨rfl, hw1⟩; have hd1 := Hd.out.went hw1 (by simp) hn1.out; obtain ⟨d0, d1, d2⟩ := hd1; have HW1 := Lib.hid hw1; clear hw1)
    | (go_at_call 44; (with_reducible refine (HR.out _ (H0.out.stays HW1.out) (Nat.le_trans H0.out.base HW1.out.size)).mono ?_); rintro e w2 ⟨rfl, hw2⟩; have HW2 := Lib.hid hw2; clear hw2))
  go_ret
  exact ⟨by simp, (WentTwo.both H0.out Hl.out HW1.out (fun _ _ _ => trivial) HW2.out).from HB0.out⟩
theorem do_none (k b : Int) (o : Bool) (h : Two B w gc vc gr vr M l) (h0 : k ≠ 0) (h1 : k ≠ 1) (h2 : k ≠ 2) (h3 : k ≠ 3) :
    Calls Try.prog 25 #[.pointer (some ⟨gc, 0, none⟩), .pointer (some ⟨gr, 0, none⟩), .agg #[.int .i64 k, .int .i64 b, .bool o]] w fun e w' => e = .returned (.bool true) ∧ WentTwo B w gc vc gr vr M l w' := by
  have a0 : (k == 0) = false := by simpa using h0
  have a1 : (k == 1) = false := by simpa using h1
  have a2 : (k == 2) = false := by simpa using h2
  have a3 : (k == 3) = false := by simpa using h3
  have HF := Lib.hid (fun W hb => WentTwo.fresh (w1 := W) h hb)
  clear h h0 h1 h2 h3
  go_enter Try.func25, Try.ntmps25
  go_wp2
  go_ret
  exact ⟨rfl, HF.out _ ((Below.refl _ _).alloc (Nat.le_refl _) _)⟩
set_option maxRecDepth 100000 in
set_option maxHeartbeats 2000000 in
theorem do_pin (b : Int) (o : Bool) (h : Two B w gc vc gr vr M l) (hf : Few 1000000 l) :
    Calls Try.prog 25 #[.pointer (some ⟨gc, 0, none⟩), .pointer (some ⟨gr, 0, none⟩), .agg #[.int .i64 1, .int .i64 b, .bool o]] w fun e w' => e = .returned (.bool true) ∧ WentTwo B w gc vc gr vr M (pinL l b o) w' := by
  have hB0 : Below w.heap.size w ((w.alloc (.cells #[.int .i64 1, .int .i64 b, .bool o] 50)).drew) := ((Below.refl _ _).alloc (Nat.le_refl _) _).drew
  have hl1 : l.length ≤ 1000 := by have := h.len; have := h.hM; omega
  have H0 := Lib.hid (h.fresh hB0)
  have HB0 := Lib.hid hB0
  have hd : D3 ((w.alloc (.cells #[.int .i64 1, .int .i64 b, .bool o] 50)).drew) w.heap.size 1 b o := D3.new w 1 b o
  have Hd := Lib.hid hd
  have hn1 := Lib.hid h.c.notAt
  have hn2 := Lib.hid h.r.notAt
  have hgc := h.c.glt
  have hgr := h.r.glt
  have HU := Lib.hid (fun W (hc : CacheAt 69 66 B W gc vc M l) => pin_any B gc vc M l b W o hc hl1 hf)
  have HR := Lib.hid (fun W (hr : CacheAt 77 102 B W gr vr M l) (hB : B ≤ W.heap.size) => rpin_any B gr vr M l b W o hr hl1 hf)
  have Hl : Hid ((pinL l b o).length ≤ M) := by unfold Hid; rw [length_pinL]; exact h.len
  clear h hd hB0
  generalize pinE l b o = E at HU HR
  go_enter Try.func25, Try.ntmps25
  go_wp2
  go_region_held3 (fun w' => w'.cell? ⟨w.heap.size, 0, none⟩ = some (.int .i64 1) ∧ w'.cell? ⟨w.heap.size, 1, none⟩ = some (.int .i64 b) ∧ w'.cell? ⟨w.heap.size, 2, none⟩ = some (.bool o)) (first | exact X2.out | exact X1.out | exact Hd.out | go_keep)
    (first
      | (go_at_call 16; (with_reducible refine (HU.out _ (H0.out.stays' HWr.out)).mono ?_); rintro e w2 ⟨rfl, hw2⟩; have X2 := Lib.hid (X1.out.went hw2 (Nat.lt_of_lt_of_le hlt0 HWr.out.size) hn1.out); have HE := Lib.hid (WentTwo.both' H0.out Hl.out HWr.out hw2); clear hw2)
      | (go_at_call 16; (with_reducible refine (HU.out _ H0.out.c).mono ?_); rintro e w1 ⟨rfl, hw1⟩; have hlt0 : w.heap.size < ((w.alloc (.cells #[.int .i64 1, .int .i64 b, .bool o] 50)).drew).heap.size := (by simp); have X1 := Lib.hid (Hd.out.went hw1 hlt0 hn1.out); have HWc := Lib.hid hw1; clear hw1)
      | (go_at_call 45; (with_reducible refine (HR.out _ (H0.out.stays HWc.out) (Nat.le_trans H0.out.base HWc.out.size)).mono ?_); rintro e w2 ⟨rfl, hw2⟩; have X2 := Lib.hid (X1.out.went hw2 (Nat.lt_of_lt_of_le hlt0 HWc.out.size) hn2.out); have HE := Lib.hid (WentTwo.both H0.out Hl.out HWc.out (fun _ _ _ => trivial) hw2); clear hw2)
      | (go_at_call 45; (with_reducible refine (HR.out _ H0.out.r H0.out.base).mono ?_); rintro e w1 ⟨rfl, hw1⟩; have hlt0 : w.heap.size < ((w.alloc (.cells #[.int .i64 1, .int .i64 b, .bool o] 50)).drew).heap.size := (by simp); have X1 := Lib.hid (Hd.out.went hw1 hlt0 hn2.out); have HWr := Lib.hid hw1; clear hw1))
  all_goals
    go_wp2
    go_ret
    exact ⟨by simp, HE.out.from HB0.out⟩
set_option maxRecDepth 100000 in
set_option maxHeartbeats 2000000 in
theorem do_dirty (b : Int) (o : Bool) (h : Two B w gc vc gr vr M l) :
    Calls Try.prog 25 #[.pointer (some ⟨gc, 0, none⟩), .pointer (some ⟨gr, 0, none⟩), .agg #[.int .i64 2, .int .i64 b, .bool o]] w fun e w' => e = .returned (.bool true) ∧ WentTwo B w gc vc gr vr M (dirtyL l b o) w' := by
  have hB0 : Below w.heap.size w ((w.alloc (.cells #[.int .i64 2, .int .i64 b, .bool o] 50)).drew) := ((Below.refl _ _).alloc (Nat.le_refl _) _).drew
  have hl1 : l.length ≤ 1000 := by have := h.len; have := h.hM; omega
  have H0 := Lib.hid (h.fresh hB0)
  have HB0 := Lib.hid hB0
  have hd : D3 ((w.alloc (.cells #[.int .i64 2, .int .i64 b, .bool o] 50)).drew) w.heap.size 2 b o := D3.new w 2 b o
  have Hd := Lib.hid hd
  have hn1 := Lib.hid h.c.notAt
  have hn2 := Lib.hid h.r.notAt
  have hgc := h.c.glt
  have hgr := h.r.glt
  have HU := Lib.hid (fun W (hc : CacheAt 69 66 B W gc vc M l) => dirty_any B gc vc M l b W o hc hl1)
  have HR := Lib.hid (fun W (hr : CacheAt 77 102 B W gr vr M l) (hB : B ≤ W.heap.size) => rdirty_any B gr vr M l b W o hr hl1)
  have Hl : Hid ((dirtyL l b o).length ≤ M) := by unfold Hid; rw [length_dirtyL]; exact h.len
  clear h hd hB0
  generalize dirtyE l b = E at HU HR
  go_enter Try.func25, Try.ntmps25
  go_wp2
  go_region_held3 (fun w' => w'.cell? ⟨w.heap.size, 0, none⟩ = some (.int .i64 2) ∧ w'.cell? ⟨w.heap.size, 1, none⟩ = some (.int .i64 b) ∧ w'.cell? ⟨w.heap.size, 2, none⟩ = some (.bool o)) (first | exact X2.out | exact X1.out | exact Hd.out | go_keep)
    (first
      | (go_at_call 17; (with_reducible refine (HU.out _ (H0.out.stays' HWr.out)).mono ?_); rintro e w2 ⟨rfl, hw2⟩; have X2 := Lib.hid (X1.out.went hw2 (Nat.lt_of_lt_of_le hlt0 HWr.out.size) hn1.out); have HE := Lib.hid (WentTwo.both' H0.out Hl.out HWr.out hw2); clear hw2)
      | (go_at_call 17; (with_reducible refine (HU.out _ H0.out.c).mono ?_); rintro e w1 ⟨rfl, hw1⟩; have hlt0 : w.heap.size < ((w.alloc (.cells #[.int .i64 2, .int .i64 b, .bool o] 50)).drew).heap.size := (by simp); have X1 := Lib.hid (Hd.out.went hw1 hlt0 hn1.out); have HWc := Lib.hid hw1; clear hw1)
      | (go_at_call 46; (with_reducible refine (HR.out _ (H0.out.stays HWc.out) (Nat.le_trans H0.out.base HWc.out.size)).mono ?_); rintro e w2 ⟨rfl, hw2⟩; have X2 := Lib.hid (X1.out.went hw2 (Nat.lt_of_lt_of_le hlt0 HWc.out.size) hn2.out); have HE := Lib.hid (WentTwo.both H0.out Hl.out HWc.out (fun _ _ _ => trivial) hw2); clear hw2)
      | (go_at_call 46; (with_reducible refine (HR.out _ H0.out.r H0.out.base).mono ?_); rintro e w1 ⟨rfl, hw1⟩; have hlt0 : w.heap.size < ((w.alloc (.cells #[.int .i64 2, .int .i64 b, .bool o] 50)).drew).heap.size := (by simp); have X1 := Lib.hid (Hd.out.went hw1 hlt0 hn2.out); have HWr := Lib.hid hw1; clear hw1))
  all_goals
    go_wp2
    go_ret
    exact ⟨by simp, HE.out.from HB0.out⟩
set_option maxRecDepth 100000 in
set_option maxHeartbeats 2000000 in
theorem do_drop (b : Int) (o : Bool) (h : Two B w gc vc gr vr M l) :
    Calls Try.prog 25 #[.pointer (some ⟨gc, 0, none⟩), .pointer (some ⟨gr, 0, none⟩), .agg #[.int .i64 3, .int .i64 b, .bool o]] w fun e w' => e = .returned (.bool true) ∧ WentTwo B w gc vc gr vr M (dropL l b) w' := by
  have hB0 : Below w.heap.size w ((w.alloc (.cells #[.int .i64 3, .int .i64 b, .bool o] 50)).drew) := ((Below.refl _ _).alloc (Nat.le_refl _) _).drew
  have hl1 : l.length ≤ 1000 := by have := h.len; have := h.hM; omega
  have H0 := Lib.hid (h.fresh hB0)
  have HB0 := Lib.hid hB0
  have hd : D3 ((w.alloc (.cells #[.int .i64 3, .int .i64 b, .bool o] 50)).drew) w.heap.size 3 b o := D3.new w 3 b o
  have Hd := Lib.hid hd
  have hn1 := Lib.hid h.c.notAt
  have hn2 := Lib.hid h.r.notAt
  have hgc := h.c.glt
  have hgr := h.r.glt
  have HU := Lib.hid (fun W (hc : CacheAt 69 66 B W gc vc M l) => drop_any B gc vc M l b W hc hl1)
  have HR := Lib.hid (fun W (hr : CacheAt 77 102 B W gr vr M l) (hB : B ≤ W.heap.size) => rdrop_any B gr vr M l b W hr hl1 hB)
  have Hl : Hid ((dropL l b).length ≤ M) := Nat.le_trans (length_dropL l b) h.len
  clear h hd hB0
  generalize dropE l b = E at HU HR
  go_enter Try.func25, Try.ntmps25
  go_wp2
  go_region_held3 (fun w' => w'.cell? ⟨w.heap.size, 0, none⟩ = some (.int .i64 3) ∧ w'.cell? ⟨w.heap.size, 1, none⟩ = some (.int .i64 b) ∧ w'.cell? ⟨w.heap.size, 2, none⟩ = some (.bool o)) (first | exact X2.out | exact X1.out | exact Hd.out | go_keep)
    (first
      | (go_at_call 18; (with_reducible refine (HU.out _ (H0.out.stays' HWr.out)).mono ?_); rintro e w2 ⟨rfl, hw2⟩; have X2 := Lib.hid (X1.out.went hw2 (Nat.lt_of_lt_of_le hlt0 HWr.out.size) hn1.out); have HE := Lib.hid (WentTwo.both' H0.out Hl.out HWr.out hw2); clear hw2)
      | (go_at_call 18; (with_reducible refine (HU.out _ H0.out.c).mono ?_); rintro e w1 ⟨rfl, hw1⟩; have hlt0 : w.heap.size < ((w.alloc (.cells #[.int .i64 3, .int .i64 b, .bool o] 50)).drew).heap.size := (by simp); have X1 := Lib.hid (Hd.out.went hw1 hlt0 hn1.out); have HWc := Lib.hid hw1; clear hw1)
      | (go_at_call 47; (with_reducible refine (HR.out _ (H0.out.stays HWc.out) (Nat.le_trans H0.out.base HWc.out.size)).mono ?_); rintro e w2 ⟨rfl, hw2⟩; have X2 := Lib.hid (X1.out.went hw2 (Nat.lt_of_lt_of_le hlt0 HWc.out.size) hn2.out); have HE := Lib.hid (WentTwo.both H0.out Hl.out HWc.out (fun _ _ _ => trivial) hw2); clear hw2)
      | (go_at_call 47; (with_reducible refine (HR.out _ H0.out.r H0.out.base).mono ?_); rintro e w1 ⟨rfl, hw1⟩; have hlt0 : w.heap.size < ((w.alloc (.cells #[.int .i64 3, .int .i64 b, .bool o] 50)).drew).heap.size := (by simp); have X1 := Lib.hid (Hd.out.went hw1 hlt0 hn2.out); have HWr := Lib.hid hw1; clear hw1))
  all_goals
    go_wp2
    go_ret
    exact ⟨by simp, HE.out.from HB0.out⟩
theorem do_any (k b : Int) (o : Bool) (h : Two B w gc vc gr vr M l) (hf : Few 1000000 l) :
    Calls Try.prog 25 #[.pointer (some ⟨gc, 0, none⟩), .pointer (some ⟨gr, 0, none⟩), .agg #[.int .i64 k, .int .i64 b, .bool o]] w fun e w' => e = .returned (.bool true) ∧ WentTwo B w gc vc gr vr M (doL M l k b o) w' := by
  by_cases h0 : k = 0
  · subst h0; simpa [doL] using do_use B gc gr M vc vr l w b o h
  · by_cases h1 : k = 1
    · subst h1; simpa [doL] using do_pin B gc gr M vc vr l w b o h hf
    · by_cases h2 : k = 2
      · subst h2; simpa [doL] using do_dirty B gc gr M vc vr l w b o h
      · by_cases h3 : k = 3
        · subst h3; simpa [doL] using do_drop B gc gr M vc vr l w b o h
        · have := do_none B gc gr M vc vr l w k b o h h0 h1 h2 h3
          simpa [doL, h0, h1, h2, h3] using this
end
end Go.Proofs.Ythibnnllecdpaaa
