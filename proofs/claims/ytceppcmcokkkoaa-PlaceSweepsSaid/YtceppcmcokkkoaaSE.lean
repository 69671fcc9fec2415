/- Contract of Sweep. -/
import Derived.Test.YtceppcmcokkkoaaSD
namespace Go.Proofs.Ytceppcmcokkkoaa
open Go.RowKit

theorem own_below {w w' : World} {base B : Nat} {e : TypeId} {size : Nat} {v : Value} {n : Nat} {xs : List Value} (h : w.ownsRow base e size v n xs) (hb : Below B w w') (hlt : ∀ j, v.ownBlock = some j → j < B) : w'.ownsRow base e size v n xs := by
  refine ⟨h.1, ?_⟩
  rcases h.2 with hn | ⟨g, cap, cur, rfl, h1, h2, rest⟩
  · exact .inl hn
  · refine .inr ⟨g, cap, cur, rfl, h1, ?_, rest⟩
    rw [hb.block g (hlt g rfl)]
    exact h2
theorem blk_below {w w' : World} {g B : Nat} {t : TypeId} {l : List Value} (h : BlkIs w g t l) (hb : Below B w w') (hlt : g < B) : BlkIs w' g t l := by
  unfold BlkIs at h ⊢
  rw [hb.block g hlt]
  exact h
def placesV (n : Nat) (l : List Nat) : List Value := l.map fun x => plV x n
theorem own_places {w : World} {base : Nat} {g c n : Nat} {lf : List Nat} (h : w.ownsRow base 34 1 (.slice (some ⟨g, 0, none⟩) lf.length c) lf.length (placesV n lf)) : Places w w.heap.size (some ⟨g, 0, none⟩) (el lf) lf.length n := fun hp =>
  ⟨g, 0, rfl, (h.lt g rfl).2, fun j hj => by
    rw [Nat.zero_add, h.cellAt j (by omega), placesV, List.getElem?_map, List.getElem?_eq_getElem hj, el_lt hj]; rfl⟩
theorem own_nat {w : World} {base : Nat} {g c : Nat} {lf : List Nat} (h : w.ownsRow base 3 1 (.slice (some ⟨g, 0, none⟩) lf.length c) lf.length (natsV lf)) {k : Nat} (hk : k < lf.length) : w.cell? ⟨g, k, none⟩ = some (.int .i64 (el lf k : Nat)) := by
  rw [h.cellAt k (by omega), natsV, List.getElem?_map, List.getElem?_eq_getElem hk, el_lt hk]; rfl
theorem own_place {w : World} {base : Nat} {g c n : Nat} {lf : List Nat} (h : w.ownsRow base 34 1 (.slice (some ⟨g, 0, none⟩) lf.length c) lf.length (placesV n lf)) {k : Nat} (hk : k < lf.length) : w.cell? ⟨g, k, none⟩ = some (plV (el lf k) n) := by
  rw [h.cellAt k (by omega), placesV, List.getElem?_map, List.getElem?_eq_getElem hk, el_lt hk]; rfl
theorem length_swR (n f : Nat) : ∀ s l, (swR n f s l).length = f := by
  induction f with
  | zero => intros; rfl
  | succ f ih => intro s l; simp [swR, ih]
theorem map_cut {α β : Type} (g : α → β) (l : List α) (k : Nat) : (l.map g).eraseIdx k = (l.eraseIdx k).map g := by
  rw [List.eraseIdx_eq_take_drop_succ, List.eraseIdx_eq_take_drop_succ, List.map_append, List.map_take, List.map_drop]
theorem natsV_cut (lf : List Nat) (k : Nat) : (natsV lf).eraseIdx k = natsV (lf.eraseIdx k) := by exact map_cut _ _ _
theorem placesV_cut (n : Nat) (lf : List Nat) (k : Nat) : (placesV n lf).eraseIdx k = placesV n (lf.eraseIdx k) := by exact map_cut _ _ _
theorem natsV_one (lf : List Nat) : ∀ u ∈ natsV lf, u.oneCell' = true := by
  intro u hu
  obtain ⟨x, _, rfl⟩ := List.mem_map.1 hu
  rfl
theorem placesV_one (n : Nat) (lf : List Nat) : ∀ u ∈ placesV n lf, u.oneCell' = true := by
  intro u hu
  obtain ⟨x, _, rfl⟩ := List.mem_map.1 hu
  rfl

theorem placed_all (q : List Nat) (n : Nat) : placed (natsI q) n q.length = placesV n q := by
  apply List.ext_getElem
  · rw [length_placed, length_natsI]; simp [placesV]
  · intro k h1 h2
    rw [length_placed, length_natsI] at h1
    have := placed_at (natsI q) n q.length k (by rw [length_natsI]; exact h1)
    rw [if_pos h1, List.getElem?_eq_getElem (by rw [length_placed, length_natsI]; exact h1)] at this
    injection this with this
    rw [this]
    unfold nn
    rw [nth_nats q k h1, Int.toNat_natCast, el_lt h1]
    simp [placesV]
theorem BlkIs.owns {w : World} {g base : Nat} {t : TypeId} {L : List Value} (h : BlkIs w g t L) (hb : base ≤ g) (hl : L.length ≤ maxLen) : w.ownsRow base t 1 (.slice (some ⟨g, 0, none⟩) L.length L.length) L.length L :=
  ⟨by rw [Nat.mul_one], .inr ⟨g, L.length, L.toArray, rfl, hb, h, Nat.le_refl _, hl, by simp, by simp⟩⟩

/-- what stands at the head of each round of Sweep -/
structure SwSt (w wr : World) (BA gT n m0 : Nat) (q total : List Nat) (oL oP : Option Nat) (j : Nat) (vL vP vA : Value) (s : Nat) (lf dn : List Nat) : Prop where
  s_lt : s < 1024
  len : lf.length + j = m0
  lt : ∀ x ∈ lf, x < 1024
  left : wr.ownsRow w.heap.size 3 1 vL lf.length (natsV lf)
  leftB : vL.ownBlock = oL
  pl : wr.ownsRow w.heap.size 34 1 vP lf.length (placesV n lf)
  plB : vP.ownBlock = oP
  all : wr.ownsRow BA 3 1 vA dn.length (natsV dn)
  times : BlkIs wr gT 70 (timesV q)
  below : Below w.heap.size w wr
  size : BA ≤ wr.heap.size
  sum : dn ++ swD n (fun y => q.count y) lf.length s lf = total

def SweepSays (w : World) (n i : Nat) (q : List Nat) (e : Ending) (w' : World) : Prop :=
  ∃ v, e = .returned (.tuple #[v, .int .i64 0]) ∧ w'.ownsRow w.heap.size 3 1 v q.length (natsV (swR n q.length i q)) ∧ Below w.heap.size w w'

theorem lies_nats {i n : Nat} {l : List Int} (h : Lies i l n) : l = natsI (l.map Int.toNat) := by
  unfold natsI
  rw [List.map_map]
  apply List.ext_getElem
  · simp
  · intro k h1 h2
    have := (h.at_ k h1).1
    unfold nn at this
    rw [nth_lt h1] at this
    simp
    omega
theorem lies_of {i n : Nat} {q : List Nat} (hi : i < 1024) (h1 : 1 ≤ n) (h2 : n ≤ 64) (hq : ∀ x ∈ q, x < 1024) : Lies i (natsI q) n := by
  refine ⟨hi, h1, h2, fun k hk => ?_⟩
  rw [length_natsI] at hk
  unfold nn
  rw [nth_nats q k hk]
  refine ⟨by omega, ?_⟩
  rw [Int.toNat_natCast, el_lt hk]
  exact hq _ (List.getElem_mem hk)

set_option maxRecDepth 100000 in
set_option maxHeartbeats 4000000 in
theorem sweep_yes (A : Option Addr) (c m i n : Nat) (q : List Nat) (w : World) (hm : m = q.length) (hl : q.length ≤ 1000) (hi : i < 1024) (h1n : 1 ≤ n) (hn : n ≤ 64) (hq : ∀ x ∈ q, x < 1024) (hI : Ints w w.heap.size A (natsI q)) :
    Calls Try.prog 24 #[.int .i64 (i : Int), .slice A m c, .int .i64 (n : Int)] w (SweepSays w n i q) := by
  subst hm
  have hlay1 := lay_any A c (i : Int) (n : Int) (natsI q) w (by rw [length_natsI]; exact hl) hI
  rw [length_natsI] at hlay1
  have hfit1 := lies_fit (lies_of hi h1n hn hq)
  have honce := fun W (hB : Below w.heap.size w W) => once_any A c q.length q W rfl hl hq ((hI.below hB).more hB.size)
  have hddl := dd_len q
  have hddq : ∀ x ∈ dd q, x < 1024 := fun x hx => hq x ((dd_mem q x).1 hx)
  have hfit2 := lies_fit (lies_of hi h1n hn hddq)
  obtain ⟨hz, hs⟩ := zero_of_info (P := Try.prog) info70
  obtain ⟨i0, hi0, hz0, hz1, hz2⟩ := info_parts info3
  obtain ⟨Z, hZ⟩ : ∃ Z, Z = zero70 := ⟨_, rfl⟩
  rw [← hZ] at hz
  have HZ := Lib.hid hZ
  have Hlay1 := Lib.hid hlay1
  have Hfit1 := Lib.hid hfit1
  have Hfit2 := Lib.hid hfit2
  have Honce := Lib.hid honce
  have Hddq := Lib.hid hddq
  have HS := Lib.hid hs
  have Hi0 := Lib.hid hi0
  have HQ := Lib.hid hq
  have Htot := Lib.hid (swR_swD n q.length q i (Nat.le_refl _))
  obtain ⟨xi, yi, hpi⟩ := plV_form i n
  have Hpi := Lib.hid hpi
  clear hlay1 hfit1 hfit2 honce hddq hs hi0 hq hZ hI hpi
  go_enter Try.func24, Try.ntmps24
  go_wp2_with fail
  refine Hlay1.out.mono ?_
  rintro e w1 ⟨hB1, ⟨_, rfl, _⟩ | ⟨hf, _⟩⟩
  · rw [Int.toNat_natCast, Int.toNat_natCast, Hpi.out]
    have Hn1 : Hid (Below w.heap.size w w1) := hB1
    go_wp2_with fail
    refine (Honce.out _ hB1).mono ?_
    rintro e w2 ⟨vL, rfl, hownL, hB2⟩
    have hB02 := hB1.trans (hB2.mono hB1.size)
    rw [natsV_intsV] at hownL
    obtain ⟨AL, cL, rfl, hcL1, hcL2, hIL⟩ := own_ints hownL
    rw [length_natsI] at hownL ⊢
    obtain ⟨T, hT⟩ : ∃ T, T = (timesV q).toArray := ⟨_, rfl⟩
    have hTs : T.size = 1024 := by rw [hT]; simp [length_timesV]
    have hsc : (storeCells ⟨w2.heap.size, 0, none⟩ T.toList 0).run Try.prog (w2.alloc (.cells Z 70)) = .ok () (w2.alloc (.cells T 70)) := by
      exact run_storeCells_new (P := Try.prog) w2 70 Z T (by rw [HS.out, hT]; simp [length_timesV]) (by rw [HZ.out, hT]; simp [length_timesV, zero70]) (by rw [hT]; exact Array.all_eq_true_iff_forall_mem.2 (fun v hv => timesV_one q v (by simpa using hv)))
    rw [← hT]
    have hBlkT : BlkIs (w2.alloc (.cells T 70)) w2.heap.size 70 (timesV q) := by
      have := heap_alloc_new w2 (.cells T 70)
      unfold BlkIs
      rw [← hT]
      exact this
    have hB3 : Below w.heap.size w (w2.alloc (.cells T 70)) := hB02.alloc hB02.size _
    have hownL3 := hownL.alloc (.cells T 70)
    have hI3 : Ints (w2.alloc (.cells T 70)) (w2.alloc (.cells T 70)).heap.size AL (natsI (dd q)) := (hIL.below ((Below.refl _ w2).alloc (Nat.le_refl _) (.cells T 70))).more (by simp)
    have hlay2 := lay_any AL cL (i : Int) (n : Int) (natsI (dd q)) (w2.alloc (.cells T 70)) (by rw [length_natsI]; omega) hI3
    rw [length_natsI] at hlay2
    have hs3 : (w2.alloc (.cells T 70)).heap.size = w2.heap.size + 1 := by simp
    have hoL2 := fun j h => (hownL.lt j h).2
    have HoL2 := Lib.hid hoL2
    clear hoL2
    obtain ⟨w3, hw3⟩ : ∃ w3, w3 = w2.alloc (.cells T 70) := ⟨_, rfl⟩
    rw [← hw3] at hsc hBlkT hB3 hownL3 hlay2 hs3
    have Hlay2 := Lib.hid hlay2
    have HBlkT := Lib.hid hBlkT
    have HownL3 := Lib.hid hownL3
    have Hs3 := Lib.hid hs3
    have HB3 := Lib.hid hB3
    have HcL2 := Lib.hid hcL2
    clear hT hBlkT hB3 hownL3 hI3 hlay2 hs3 hownL hIL hcL1 hcL2 hw3
    go_wp2_with fail
    refine Hlay2.out.mono ?_
    rintro e w4 ⟨hB4, ⟨_, rfl, hblkP⟩ | ⟨hf, _⟩⟩
    · rw [Int.toNat_natCast, length_natsI, placed_all] at hblkP
      rw [length_natsI]
      rw [Int.toNat_natCast, Int.toNat_natCast, Hpi.out]
      clear hsc hTs
      obtain ⟨M, hMs, hmk⟩ : ∃ M : Array Value, M.size = q.length ∧ ∀ W : World, (Instr.makeSlice 22 (.int .i64 0) (.int .i64 (q.length : Int))).run Try.prog W = .ok (.slice (some ⟨W.heap.size, 0, none⟩) 0 q.length) (W.alloc (.cells M 3)) := by
        refine ⟨madeCells (Value.int .i64 0).cells (q.length * 1), by rw [size_madeCells]; simp, fun W => ?_⟩
        have := run_makeSlice (P := Try.prog) W 22 3 i0 (.int .i64 0) Try.underlying22 Hi0.out hz0 .i64 .i64 0 q.length (Int.le_refl _) (by omega) (by rw [hz1, Int.toNat_natCast]; omega) (by rw [hz2]; omega) (by omega)
        rw [hz1, Int.toNat_natCast] at this
        exact this
      have hs4 := hB4.size
      have hallO : (w4.alloc (.cells M 3)).ownsRow w4.heap.size 3 1 (.slice (some ⟨w4.heap.size, 0, none⟩) 0 q.length) 0 [] := World.ownsRow_made w4 M q.length (Nat.le_refl _) (by unfold maxLen; omega) (by rw [hMs, Nat.mul_one])
      have HallO := Lib.hid hallO
      have HMs := Lib.hid hMs
      have HblkP := Lib.hid hblkP
      clear hallO hMs hblkP
      go_wp2
      obtain ⟨oL, hoL⟩ : ∃ o, o = (Value.slice AL (dd q).length cL).ownBlock := ⟨_, rfl⟩
      have HoL : Hid (∀ j, oL = some j → j < w2.heap.size) := fun j h => HoL2.out j (by rw [← hoL]; exact h)
      have HoLe := Lib.hid hoL
      clear hoL
      have hBA : w3.heap.size < w4.heap.size := HblkP.out.lt
      have hgT : w2.heap.size < w3.heap.size := by rw [Hs3.out]; omega
      have hB2s := hB02.size
      have hB04 := Lib.hid (HB3.out.trans (hB4.mono (by omega)))
      obtain ⟨m0, hm0⟩ : ∃ m, m = (dd q).length := ⟨_, rfl⟩
      have hm0l : m0 ≤ 1000 := by omega
      rw [← hm0]
      obtain ⟨h0, hh0⟩ : ∃ h, h = Value.complex .f64 xi yi := ⟨_, rfl⟩
      have Hst0 : Hid (SwSt w (w4.alloc (.cells M 3)) w4.heap.size w2.heap.size n m0 q (swR n q.length i q) oL (some w3.heap.size) 0 (.slice AL m0 cL) (.slice (some ⟨w3.heap.size, 0, none⟩) m0 m0) (.slice (some ⟨w4.heap.size, 0, none⟩) 0 q.length) i (dd q) []) := by
        refine ⟨hi, by rw [hm0]; rfl, Hddq.out, ?_, by rw [hm0]; exact HoLe.out.symm, ?_, rfl, HallO.out, ?_, hB04.out.alloc hB04.out.size _, by simp, ?_⟩
        · have h1 := own_below HownL3.out hB4 (fun j hj => by have := HoL.out j (by rw [HoLe.out]; exact hj); omega)
          rw [← natsV_intsV] at h1
          rw [hm0]
          exact (own_mono h1 hB1.size).alloc _
        · have h1 := (HblkP.out.owns (base := w.heap.size) (by omega) (by unfold placesV maxLen; simp; omega)).alloc (.cells M 3)
          have e : (placesV n (dd q)).length = m0 := by unfold placesV; simp [hm0]
          rw [e] at h1
          rw [← hm0]
          exact h1
        · have := blk_below HBlkT.out hB4 hgT
          unfold BlkIs at this ⊢
          rw [heap_alloc_old _ _ (by omega)]
          exact this
        · rw [Htot.out]
          rfl
      clear hm0 hz hmk
      go_loopw [8, 11, 14, 16, 47] (fun h vL vP vA j wr => ∃ (jj s : Nat) (lf dn : List Nat), j = .int .i64 jj ∧ h = plV s n ∧ SwSt w wr w4.heap.size w2.heap.size n m0 q (swR n q.length i q) oL (some w3.heap.size) jj vL vP vA s lf dn) (fun _ _ _ _ j _ => m0 - (intOf j).toNat)
      case atStart => exact ⟨0, i, dd q, [], rfl, Hpi.out.symm, Hst0.out⟩
      case round =>
        obtain ⟨jj, s, lf, dn, rfl, rfl, st⟩ := hrel
        rename World => wr
        have hlen := st.len
        by_cases hlt : jj < m0
        · have hlti : (jj : Int) < (m0 : Int) := by omega
          have hne : lf ≠ [] := fun e => by rw [e] at hlen; simp at hlen; omega
          have hlm : lf.length ≤ 1000 := by omega
          have hlp : 0 < lf.length := by omega
          obtain ⟨gL, cLL, hvL, hgL0, _⟩ := st.left.form hlp
          obtain ⟨gP, cPP, hvP, _, _⟩ := st.pl.form hlp
          have hoL2 : oL = some gL := by rw [← st.leftB, hvL]; rfl
          have hgP : w3.heap.size = gP := by have := st.plB; rw [hvP] at this; simpa [Value.ownBlock] using this.symm
          have hgLlt := HoL.out gL hoL2
          have hleft := st.left
          have hpl := st.pl
          have hall := st.all
          have hB := st.below
          have hsize := st.size
          have htm := st.times
          have hs := st.s_lt
          have hsum := st.sum
          have hltq := st.lt
          rw [hvL] at hleft
          rw [hvP, ← hgP] at hpl
          rw [← hgP] at hvP
          rw [hvL, hvP]
          have hk := idx_lt n s hne
          have hvv : val n s lf = el lf (idx n s lf) := rfl
          have hv1 := hltq _ (val_mem n s hne)
          have hnear := fun W (h : wr = W) => nearest_any (some ⟨w3.heap.size, 0, none⟩) cPP s lf.length n (el lf) W W.heap.size hlm hs (fun j hj => by rw [el_lt hj]; exact hltq _ (List.getElem_mem hj)) h1n hn (by rw [← h]; exact own_places hpl)
          have hsw : swD n (fun y => q.count y) lf.length s lf = List.replicate (q.count (val n s lf)) (val n s lf) ++ swD n (fun y => q.count y) (lf.length - 1) (val n s lf) (lf.eraseIdx (idx n s lf)) := by
            obtain ⟨f, hf⟩ : ∃ f, lf.length = f + 1 := ⟨lf.length - 1, by omega⟩
            rw [hf]
            rfl
          have hbe : bestOf (fun j => far s (el lf j) n) lf.length = idx n s lf := rfl
          rw [hbe] at hnear
          have hcv := List.count_le_length (a := val n s lf) (l := q)
          obtain ⟨k, hke⟩ : ∃ k, k = idx n s lf := ⟨_, rfl⟩
          obtain ⟨v, hve⟩ : ∃ v, v = val n s lf := ⟨_, rfl⟩
          rw [← hke] at hk hvv hnear hsw
          rw [← hve] at hvv hv1 hsw hcv
          have hcL := own_nat hleft hk
          have hcP := own_place hpl hk
          rw [← hvv] at hcL hcP
          have hcT := htm.cell v
          rw [timesV_at q v hv1] at hcT
          obtain ⟨cnt, hcnt⟩ : ∃ x, x = q.count v := ⟨_, rfl⟩
          rw [← hcnt] at hcT hsw hcv
          have hlen2 : (lf.eraseIdx k).length = lf.length - 1 := List.length_eraseIdx_of_lt hk
          have Hsum : Hid ((dn ++ List.replicate cnt v) ++ swD n (fun y => q.count y) (lf.eraseIdx k).length v (lf.eraseIdx k) = swR n q.length i q) := by
            unfold Hid
            rw [hlen2, List.append_assoc, ← hsw]
            exact hsum
          have Hnear := Lib.hid hnear
          have Hltq := Lib.hid hltq
          have Hleft := Lib.hid hleft
          have Hpl := Lib.hid hpl
          have Htm := Lib.hid htm
          have HoL2 := Lib.hid hoL2
          have Hlen2 := Lib.hid hlen2
          have HcP := Lib.hid hcP
          have Hlen := Lib.hid hlen
          obtain ⟨xs, ys, hps⟩ := plV_form s n
          obtain ⟨xv, yv, hpv⟩ := plV_form v n
          rw [hps] at Hnear ⊢
          rw [hpv] at HcP
          have Hpv := Lib.hid hpv
          have hki : (k : Int) < (lf.length : Int) := by omega
          have hk0 : (0 : Int) ≤ (k : Int) := by omega
          have hvi : (v : Int) < 1024 := by omega
          have hv0 : (0 : Int) ≤ (v : Int) := by omega
          have hci : (cnt : Int) ≤ 1000 := by omega
          obtain ⟨lm, hlm0⟩ : ∃ lm, lm = lf.length := ⟨_, rfl⟩
          rw [← hlm0] at Hnear Hleft Hpl Hlen2 Hlen hk hki hlm ⊢
          have Hlm0 := Lib.hid hlm0
          clear hnear hsw hbe hvv hcv hke hve hcnt hlen2 hps hpv hlen hltq hleft hpl htm hoL2 hsum hcP st hne hvL hvP hgP hlm0 hlp
          have hdnl : dn.length + cnt ≤ 1000 := by
            have := congrArg List.length Hsum.out
            rw [length_swR, List.length_append, List.length_append, List.length_replicate] at this
            omega
          clear hh0
          go_wp2_with fail
          refine (Hnear.out _ rfl).mono ?_
          rintro e w' ⟨rfl, rfl⟩
          go_wp2
          have HcL := Lib.hid hcL
          clear hcL hcT
          go_loopw [16, 58] (fun vA x wy => ∃ xx : Nat, xx ≤ cnt ∧ x = .int .i64 xx ∧ wy.ownsRow w4.heap.size 3 1 vA (dn.length + xx) (natsV (dn ++ List.replicate xx v)) ∧ Below w4.heap.size wr wy) (fun _ x _ => cnt - (intOf x).toNat)
          case atStart => exact ⟨0, Nat.zero_le _, rfl, by simpa using hall, Below.refl _ _⟩
          case round =>
            obtain ⟨xx, hxx, rfl, hown, hBy⟩ := hrel
            rename World => wy
            by_cases hlt2 : xx < cnt
            · have hlti2 : (xx : Int) < (cnt : Int) := by omega
              have hx0 : (0 : Int) ≤ (xx : Int) := by omega
              have hcL2 := (hBy.cell (p := ⟨gL, k, none⟩) (by show gL < w4.heap.size; omega)).trans HcL.out
              have hsy := hBy.size
              have hi3 := Hi0.out
              go_wp2_with (at_builtin; refine wpList_append_own _ rfl _ _ 22 rfl w4.heap.size 3 i0 (.int .i64 0) 1 8 Try.underlying22 Hi0.out hz0 hz1 hz2 rfl (by decide) _ _ _ rfl (hown.alloc _) ⟨wy.heap.size, 0, none⟩ 1 1 [.int .i64 (v : Int)] rfl rfl (cell_one_new _ _ _) (by simp [Value.oneCell']) (by unfold maxLen; omega) (by omega) (by simp; omega) ?_)
              intro v' w5 hown' hgrow _
              have hB5 : Below w4.heap.size wr w5 := hBy.trans ((((Below.refl _ wy).alloc (by omega) _)).grown hgrow (by simp; omega) (fun j e => (hown.lt j e).1))
              have hown5 : w5.ownsRow w4.heap.size 3 1 v' (dn.length + (xx + 1)) (natsV (dn ++ List.replicate (xx + 1) v)) := by
                rw [List.replicate_succ', ← List.append_assoc]
                simpa [natsV, Nat.add_assoc] using hown'
              have Hown5 := Lib.hid hown5
              clear hown5 hown' hi3
              go_wp2
              go_roundw
              case rel => exact ⟨xx + 1, by omega, by go_num, Hown5.out, hB5⟩
              case measure => simp [intOf]; omega
            · have hlti2 : ¬ (xx : Int) < (cnt : Int) := by omega
              obtain rfl : cnt = xx := by omega
              have hcP2 := (hBy.cell (p := ⟨w3.heap.size, k, none⟩) (by show w3.heap.size < w4.heap.size; omega)).trans HcP.out
              have Hall := Lib.hid hown
              have hd54 := drop54_any w.heap.size (.slice (some ⟨gL, 0, none⟩) lm cLL) lm k (natsV lf) wy hk hlm (natsV_one lf) (own_below Hleft.out hBy (fun j e => by simp [Value.ownBlock] at e; omega))
              have Hd54 := Lib.hid hd54
              clear hown hd54
              go_wp2_with fail
              refine Hd54.out.mono ?_
              rintro e w5 ⟨vL5, rfl, hob5, hown5, hg5⟩
              have hd55 := drop55_any w.heap.size (.slice (some ⟨w3.heap.size, 0, none⟩) lm cPP) lm k (placesV n lf) w5 hk hlm (placesV_one n lf) ((own_below Hpl.out hBy (fun j e => by simp [Value.ownBlock] at e; omega)).kept hg5 (.inr (by simp [Value.ownBlock]; omega)))
              have Hd55 := Lib.hid hd55
              clear hd55
              go_wp2_with fail
              refine Hd55.out.mono ?_
              rintro e w6 ⟨vP6, rfl, hob6, hown6, hg6⟩
              have hg5' : wy.grownBy w5 (some gL) := hg5
              have hg6' : w5.grownBy w6 (some w3.heap.size) := hg6
              have hgw3 : w.heap.size ≤ w3.heap.size := by omega
              have Hst : Hid (SwSt w w6 w4.heap.size w2.heap.size n m0 q (swR n q.length i q) oL (some w3.heap.size) (jj + 1) vL5 vP6 u16 v (lf.eraseIdx k) (dn ++ List.replicate cnt v)) := by
                refine ⟨hv1, by rw [Hlen2.out]; have := Hlen.out; omega, fun x hx => Hltq.out x (List.mem_of_mem_eraseIdx hx), ?_, by rw [hob5, HoL2.out]; rfl, ?_, hob6, ?_, ?_, ?_, ?_, Hsum.out⟩
                · rw [natsV_cut] at hown5
                  rw [Hlen2.out]
                  exact hown5.kept hg6' (.inr (by rw [hob5]; simp [Value.ownBlock]; omega))
                · rw [placesV_cut] at hown6
                  rw [Hlen2.out]
                  exact hown6
                · have h1 := Hall.out
                  have e : (dn ++ List.replicate cnt v).length = dn.length + cnt := by simp
                  rw [e]
                  have hne1 : ∀ g, g < w4.heap.size → (u16.ownBlock = none ∨ u16.ownBlock ≠ some g) := fun g hg => by
                    cases hv : u16.ownBlock with
                    | none => exact .inl rfl
                    | some j => exact .inr (fun e => by have := (h1.lt j hv).1; injection e with e; omega)
                  exact (h1.kept hg5' (hne1 _ (by omega))).kept hg6' (hne1 _ (by omega))
                · exact ((blk_below Htm.out hBy (by omega)).kept hg5' (fun e => by injection e with e; omega)).kept hg6' (fun e => by injection e with e; omega)
                · exact ((hB.trans (hBy.mono (by omega))).grown hg5' (by have := hBy.size; omega) (fun j e => by injection e with e; omega)).grown hg6' (by have := hBy.size; have := hg5'.size; omega) (fun j e => by injection e with e; omega)
                · have := hBy.size; have := hg5'.size; have := hg6'.size; omega
              clear hob5 hown5 hg5 hob6 hown6 hg6 hg5' hg6' hcP2
              go_wp2
              go_roundw
              case rel => exact ⟨jj + 1, v, lf.eraseIdx k, dn ++ List.replicate cnt v, by go_num, Hpv.out.symm, Hst.out⟩
              case measure => simp [intOf]; omega
        · have hlti : ¬ (jj : Int) < (m0 : Int) := by omega
          have hlf : lf = [] := List.eq_nil_of_length_eq_zero (by omega)
          have hX : SweepSays w n i q (.returned (.tuple #[u16, .int .i64 0])) wr := by
            have hs := st.sum
            rw [hlf] at hs
            have hdn : dn = swR n q.length i q := by rw [← hs]; simp [swD]
            have ho := st.all
            rw [hdn, length_swR] at ho
            exact ⟨u16, rfl, own_mono ho (by have := hB04.out.size; omega), st.below⟩
          have HX := Lib.hid hX
          obtain ⟨xs, ys, hps⟩ := plV_form s n
          rw [hps]
          clear hX st hlf hps
          go_wp2
          go_ret2
          exact HX.out
    · exact absurd Hfit2.out (by rw [hf]; decide)
  · exact absurd Hfit1.out (by rw [hf]; decide)
end Go.Proofs.Ytceppcmcokkkoaa
