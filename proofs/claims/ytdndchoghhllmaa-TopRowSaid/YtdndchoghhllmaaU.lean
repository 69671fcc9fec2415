/- The program's groups: Took. -/
import Derived.Test.YtdndchoghhllmaaT
set_option linter.unusedVariables false
set_option linter.unusedSimpArgs false
namespace Go.Proofs.Ytdndchoghhllmaa
open Go.RowKit Go.Maps Go.Sort Go.Shelf
/-- a group that has taken a patch, if its number is one of some -/
def tkE (y : Int) (ns : List Int) (g : Gp) : Gp := if g.n ∈ ns then { g with p := withI g.p y } else g
theorem tkE_n (y : Int) (ns : List Int) (g : Gp) : (tkE y ns g).n = g.n := by unfold tkE; split <;> rfl
theorem nos_tk (l : List Gp) (y : Int) (ns : List Int) : nos (l.map (tkE y ns)) = nos l := by
  unfold nos
  rw [List.map_map]
  congr 1
  funext g
  exact tkE_n y ns g
theorem tk_step {l : List Gp} {y : Int} {ns : List Int} (hn : ns.Nodup) {j : Nat} (hj : j < ns.length) : l.map (tkE y (ns.take (j + 1))) = putN (l.map (tkE y (ns.take j))) (inn ns j) (fun g => { g with p := withI g.p y }) := by
  unfold putN
  rw [List.map_map]
  refine List.map_congr_left fun g hg => ?_
  simp only [Function.comp]
  rw [tkE_n]
  have hno : inn ns j ∉ ns.take j := fun h => by
    have := hn
    rw [← List.take_append_drop (j + 1) ns, take_inn hj] at this
    have h2 := (List.nodup_append.1 (List.nodup_append.1 this).1).2.2
    exact h2 _ h _ (List.mem_singleton.2 rfl) rfl
  unfold tkE
  rw [take_inn hj]
  by_cases e : g.n = inn ns j
  · rw [if_pos e, if_pos (by rw [e]; simp), if_neg (by rw [e]; exact hno)]
  · rw [if_neg e]
    by_cases e2 : g.n ∈ ns.take j
    · rw [if_pos e2, if_pos (List.mem_append_left _ e2)]
    · rw [if_neg e2, if_neg (by rw [List.mem_append, List.mem_singleton]; rintro (z | z); exact e2 z; exact e z)]
theorem tk_all {l : List Gp} {k : Int} (hn : (nos l).Nodup) (y : Int) : l.map (tkE y (Gs.engaged ⟨l, k⟩)) = (Gs.took ⟨l, k⟩ y).l := by
  unfold Gs.took
  refine List.map_congr_left fun g hg => ?_
  unfold tkE
  by_cases e : g.s = 2
  · rw [if_pos e, if_pos (Gs.mem_engaged.2 ⟨g, hg, rfl, e⟩)]
  · rw [if_neg e, if_neg]
    intro h
    obtain ⟨g', hg', e1, e2⟩ := Gs.mem_engaged.1 h
    have h1 := ofN_self hn hg
    have h2 := ofN_self hn hg'
    rw [e1, h1] at h2
    rw [h2] at e
    exact e e2
theorem tk_none (l : List Gp) (y : Int) {ns : List Int} : l = l.map (tkE y (ns.take 0)) := by
  conv => lhs; rw [← List.map_id l]
  refine List.map_congr_left fun g _ => ?_
  unfold tkE
  simp
section
variable (B c g mb : Nat) (L : List Pr) (k y : Int) (w : World)
set_option maxRecDepth 100000 in
set_option maxHeartbeats 2000000 in
theorem took_any (h : PrgAt B c w g mb L k) (hc : c < 1000000) (hy : WfI y) (hr : Rises (Gs.engaged ⟨gp L, k⟩)) (hel : (Gs.engaged ⟨gp L, k⟩).length ≤ 8) (hwn : ∀ n ∈ nos (gp L), WfI n) : Calls Try.prog 24 #[.pointer (some ⟨g, 0, none⟩), .int .i64 y] w fun e w' =>
    e = .returned (.int .i64 (if y < 0 then 2 else 0)) ∧ PWent B (c + 8) w g mb L (if y < 0 then ⟨gp L, k⟩ else Gs.took ⟨gp L, k⟩ y) w' := by
  by_cases hy0 : y < 0
  · have HS := Lib.hid (PWent.same (d := c + 8) h (by omega) (Below.refl _ _))
    rw [if_pos hy0, if_pos hy0]
    clear h hr hel hwn
    go_enter Try.func24, Try.ntmps24
    go_wp2
    go_ret
    exact ⟨rfl, HS.out⟩
  · rw [if_neg hy0, if_neg hy0]
    have HC := Lib.hid h
    have HEg := Lib.hid (engaged_any B c g mb L k w h hc hr)
    have HNd := Lib.hid (rises_nodup hr)
    have HIn : Hid (∀ n ∈ Gs.engaged ⟨gp L, k⟩, n ∈ nos (gp L)) := fun n hn => by
      obtain ⟨x, hx, e, _⟩ := Gs.mem_engaged.1 hn
      rw [← e]; exact in_nos hx
    have HFin : Hid ((gp L).map (tkE y (Gs.engaged ⟨gp L, k⟩)) = (Gs.took ⟨gp L, k⟩ y).l) := tk_all h.nd y
    have HWn := Lib.hid hwn
    have HWy := Lib.hid hy
    have hlt := h.lt
    have HLt := Lib.hid hlt
    obtain ⟨es, hes⟩ : ∃ es, es = Gs.engaged ⟨gp L, k⟩ := ⟨_, rfl⟩
    rw [← hes] at HEg HNd HIn HFin hel
    clear h hr hes hwn hlt hy
    go_enter Try.func24, Try.ntmps24
    go_wp2_with (go_at_call 26; refine HEg.out.mono ?_; rintro e w1 ⟨A, c2, rfl, hr1, hb1⟩; have HR1 := Lib.hid hr1; have HB1 := Lib.hid hb1; clear hr1 hb1)
    go_loopw [6, 14] (fun _ i wr => ∃ (j : Nat) (L' : List Pr), j ≤ es.length ∧ i = .int .i64 j ∧ Hid (PrgAt B (c + j) wr g mb L' k) ∧ Hid (gp L' = (gp L).map (tkE y (es.take j))) ∧ Hid (Kept w1 wr (OfP g mb L)) ∧ Hid (∀ b, OfP g mb L' b → OfP g mb L b)) (fun _ i _ => es.length - (intOf i).toNat)
    case atStart => exact ⟨0, L, Nat.zero_le _, rfl, HC.out.fresh HB1.out, tk_none _ y, Kept.refl _ _, fun b hb => hb⟩
    case round =>
      obtain ⟨j, L', hj, rfl, hP, hG, hK, hO⟩ := hrel
      rename World => wr
      have hj0 : (0 : Int) ≤ (j : Int) := by omega
      have hB1 := HB1.out.size
      have hK1 := hK.out.size
      by_cases hjl : j < es.length
      · have hji : (j : Int) < (es.length : Int) := by omega
        have hcap := own_cap HR1.out
        unfold maxLen at hcap
        have hIe : Ints wr wr.heap.size A es := (HR1.out.keep hK.out (fun b e => fun o => by have := (HR1.out.lt b e).1; have := HLt.out b o; omega)).ints
        obtain ⟨be, oe, rfl, hbe, de⟩ := hIe.at_ hjl
        have hn0 := HIn.out _ (inn_mem hjl)
        have hn0' : inn es j ∈ nos (gp L') := by rw [hG.out, nos_tk]; exact hn0
        obtain ⟨q, hq, e1, e2⟩ := hP.out.of_ hn0'
        obtain ⟨_, c1⟩ := hP.out.hcells
        have hg := hP.out.glt
        obtain ⟨_, d1, _, _, hqb⟩ := hP.out.ocells hq
        obtain ⟨D, m1, m2, m3⟩ := hP.out.map
        have M1 := Lib.hid m1
        have Hat : Hid (D.atKey (.int .i64 (inn es j)) (.held (.pointer none)) = .held (.pointer (some ⟨q.b, 0, none⟩))) := by unfold Hid; rw [← e2]; exact m3 q hq _
        have HK := Lib.hid (keyI (HWn.out _ hn0))
        have HAd := Lib.hid (add_any q.pm (c + j) y q.g.p wr (hP.out.pats q hq) HWy.out (by omega))
        have HEnd : Hid (∀ w5, (∀ m, (∀ z, z ∈ m ↔ z = y ∨ z ∈ q.g.p) → SetAt w5 q.pm (c + j + 1) m) → wr.grownBy w5 (some q.pm) → PrgAt B (c + (j + 1)) w5 g mb (updL L' (inn es j) fun x => { x with p := withI x.p y }) k ∧ Kept w1 w5 (OfP g mb L)) := fun w5 h5 hg5 => by
          have hk := Kept.grown (S := fun b => b = q.pm) hg5 (fun b e => by cases e; exact .inl rfl)
          have ho := hP.out.ap.one q hq
          refine ⟨?_, hK.out.trans hk (fun b e => .inl (hO.out b (.inr (.inr ⟨q, hq, .inr (.inl e)⟩))))⟩
          rw [← e2]
          exact hP.out.upd (f := fun x => { x with p := withI x.p y }) (fun _ => rfl) hq hk (fun b e => .inr (.inl e)) (by omega) ((hk.block q.b hqb (fun e => ho.2.2.2.2.2.2.1 e)).trans (hP.out.ones q hq)) (h5 (withI q.g.p y) (fun z => mem_with)) (((hP.out.ahs q hq).keep hk (fun e => ho.2.2.2.2.2.2.2.2 e.symm)).more (by omega))
        have HG2 : Hid (gp (updL L' (inn es j) fun x => { x with p := withI x.p y }) = (gp L).map (tkE y (es.take (j + 1)))) := by
          unfold Hid
          rw [gp_upd, hG.out, tk_step HNd.out hjl]
        have HO2 : Hid (∀ b, OfP g mb (updL L' (inn es j) fun x => { x with p := withI x.p y }) b → OfP g mb L b) := fun b hb => hO.out b (upd_has hb)
        generalize inn es j = n0 at *
        generalize q.b = qb at *
        generalize q.pm = qm at *
        generalize q.g.p = qp at *
        clear hIe hn0 hn0' e1 e2 m1 m2 m3 hP hG hK hO
        go_wp2_with (first
          | (at_lookup; refine wpList_lookup_held rfl _ _ 65 rfl 3 53 lawI Try.underlying65 (zeroP _) mb (c + j) D rfl M1.out _ (.int .i64 n0) rfl HK.out _ Hat.out ?_)
          | (go_at_call 52; refine HAd.out.mono ?_; rintro e w5 ⟨rfl, h5, hg5⟩; obtain ⟨z1, z2⟩ := HEnd.out w5 h5 hg5; have Z1 := Lib.hid z1; have Z2 := Lib.hid z2; clear h5 hg5 z1 z2))
        go_roundw
        case rel => exact ⟨j + 1, _, by omega, by go_num, Z1.out, HG2.out, Z2.out, HO2.out⟩
        case measure => simp [intOf]; omega
      · obtain rfl : j = es.length := by omega
        have hji : ¬ (es.length : Int) < (es.length : Int) := by omega
        have HE : Hid (PWent B (c + 8) w g mb L (Gs.took ⟨gp L, k⟩ y) wr) := by
          refine ⟨L', hP.out.more (by omega), ?_, (Kept.fresh (S := OfP g mb L) HB1.out).trans hK.out (fun b q => .inl q), fun b hb => .inl (hO.out b hb)⟩
          rw [hG.out, List.take_length]
          exact HFin.out
        clear hP hG hK hO
        go_wp2
        go_ret
        exact ⟨rfl, HE.out⟩
end
end Go.Proofs.Ytdndchoghhllmaa
