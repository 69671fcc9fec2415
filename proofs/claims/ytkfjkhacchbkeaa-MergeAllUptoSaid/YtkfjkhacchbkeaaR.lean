/- Contract of Expand. -/
import Derived.Test.YtkfjkhacchbkeaaO
namespace Go.Proofs.Ytkfjkhacchbkeaa
set_option linter.unusedVariables false
set_option linter.unusedSimpArgs false
open Go.RowKit

def allOf (gs : List (List Nat)) (q : List Nat) : List Nat := q.flatMap (rowN gs)
theorem allOf_snoc (gs : List (List Nat)) (q : List Nat) (x : Nat) : allOf gs (q ++ [x]) = allOf gs q ++ rowN gs x := by simp [allOf]
theorem allOf_len (l : List It) (q : List Nat) : (allOf (groupsL l) q).length ≤ q.length * 64 := by
  induction q with
  | nil => simp [allOf]
  | cons x q ih =>
    have := groupsL_rowlen l x
    simp only [allOf, List.flatMap_cons, List.length_append, List.length_cons] at ih ⊢
    omega
def expandL (l : List It) (some : List Int) : List Nat := amongL 64 (natsI (allOf (groupsL l) (amongL (groupsL l).length some)))
theorem mem_expand {l : List It} {some : List Int} {i : Nat} : i ∈ expandL l some ↔ ∃ g : Nat, (g : Int) ∈ some ∧ i ∈ rowN (groupsL l) g := by
  unfold expandL
  rw [mem_among, mem_natsI]
  unfold allOf
  rw [List.mem_flatMap]
  constructor
  · rintro ⟨_, g, h1, h2⟩; exact ⟨g, (mem_among.1 h1).2, h2⟩
  · rintro ⟨g, h1, h2⟩; exact ⟨(groupsL_row h2).2, g, mem_among.2 ⟨mem_row_lt h2, h1⟩, h2⟩
theorem expand_rising (l : List It) (some : List Int) : (expandL l some).Pairwise (· < ·) := among_rising _ _
theorem expand_len (l : List It) (some : List Int) : (expandL l some).length ≤ 64 := among_len _ _
def IntsSays (w : World) (q : List Nat) (e : Ending) (w' : World) : Prop := ∃ A' c', e = .returned (.slice A' q.length c') ∧ Ints w' w'.heap.size A' (natsI q) ∧ Below w.heap.size w w'
theorem among_at (A : Option Addr) (c n : Nat) (l : List Int) (many : Nat) (hn : n = l.length) (hm : many ≤ 64) (hl : l.length ≤ 100000) (w : World) (hI : Ints w w.heap.size A l) :
    Calls Try.prog 50 #[.slice A n c, .int .i64 many] w (IntsSays w (amongL many l)) := by
  refine (among_any A c n l many hn hm hl w hI).mono ?_
  rintro e w' ⟨v, rfl, ho, hB⟩
  rw [natsV_intsV] at ho
  obtain ⟨A', c', rfl, _, _, hI'⟩ := own_ints (n := (amongL many l).length) ho
  exact ⟨A', c', by rw [length_natsI], hI', hB⟩

set_option maxRecDepth 100000 in
set_option maxHeartbeats 4000000 in
theorem expand_any (A : Option Addr) (c n : Nat) (l : List It) (A2 : Option Addr) (c2 n2 : Nat) (some : List Int) (hn : n = l.length) (hn2 : n2 = some.length) (w : World) (hl : l.length ≤ 1000) (hl2 : some.length ≤ 100000) (hs : Small l) (hI : Items w w.heap.size A l) (hI2 : Ints w w.heap.size A2 some) :
    Calls Try.prog 23 #[.slice A n c, .slice A2 n2 c2] w (IntsSays w (expandL l some)) := by
  have HG := Lib.hid (groups_any A c n l hn w hl hs hI)
  have HI2 := Lib.hid hI2
  have Hn2 := Lib.hid hn2
  have hgl := (groupsL_len l).1
  have Hal := Lib.hid (allOf_len l)
  have Hrl := Lib.hid (groupsL_rowlen l)
  have Hx : Hid (expandL l some = amongL 64 (natsI (allOf (groupsL l) (amongL (groupsL l).length some)))) := rfl
  have Hrow := Lib.hid (fun g => (Nat.le_refl (rowN (groupsL l) g).length))
  obtain ⟨gs, hgs⟩ : ∃ gs, gs = groupsL l := ⟨_, rfl⟩
  rw [← hgs] at HG hgl Hal Hrl Hx
  have hl2' := hl2
  clear hI hI2 hn hn2 hgs hs Hrow
  go_enter Try.func23, Try.ntmps23
  go_wp2_with fail
  refine HG.out.mono ?_
  rintro e w1 ⟨Ag, cg, rfl, hM1, hB1⟩
  have HI21 := Lib.hid (HI2.out.next hB1)
  have HM1 := Lib.hid hM1
  have HB1 := Lib.hid hB1
  clear hM1 hB1 HG
  have hgl2 := among_len gs.length some
  have hamlt : ∀ x ∈ amongL gs.length some, x < gs.length := fun x hx => (mem_among.1 hx).1
  have Hamlt := Lib.hid hamlt
  have Hin := Lib.hid (among_at A2 c2 n2 some gs.length Hn2.out hgl hl2 w1 HI21.out)
  obtain ⟨am, ham⟩ : ∃ am, am = amongL gs.length some := ⟨_, rfl⟩
  rw [← ham] at hgl2 Hamlt Hin Hx
  clear ham hamlt
  go_wp2_with fail
  refine Hin.out.mono ?_
  rintro e w2 ⟨A3, c3, rfl, hI3, hB2⟩
  have HI3 := Lib.hid hI3
  have HM2 := Lib.hid (HM1.out.next hB2)
  have HB2 := Lib.hid (HB1.out.trans (hB2.mono HB1.out.size))
  clear hI3 hB2 Hin HM1 HI21
  go_wp2_with fail
  go_loopw [6, 16] (fun v i wr => ∃ k : Nat, k ≤ am.length ∧ i = .int .i64 k ∧ wr.ownsRow w2.heap.size 3 1 v (allOf gs (am.take k)).length (natsV (allOf gs (am.take k))) ∧ Below w2.heap.size w2 wr) (fun _ i _ => am.length - (intOf i).toNat)
  case atStart => exact ⟨0, Nat.zero_le _, rfl, World.ownsRow_nil _ _ _ _, Below.refl _ _⟩
  case round =>
    obtain ⟨k, hk, rfl, hown, hB⟩ := hrel
    rename World => wr
    have hsz := hB.size
    have hlen := Hal.out (am.take k)
    rw [List.length_take] at hlen
    by_cases hlt : k < am.length
    · have hlti : (k : Int) < (am.length : Int) := by omega
      have hk0 : (0 : Int) ≤ (k : Int) := by omega
      obtain ⟨b, off, rfl, hb, hc⟩ := HI3.out.at_ (k := k) (by rw [length_natsI]; exact hlt)
      rw [nth_nats am k hlt] at hc
      have hck : wr.cell? ⟨b, off + k, none⟩ = .some (.int .i64 ((el am k : Nat) : Int)) := (hB.cell (p := ⟨b, off + k, none⟩) hb).trans hc
      have htk := take_el am k hlt
      have hx := Hamlt.out (el am k) (by rw [el_lt hlt]; exact List.getElem_mem _)
      obtain ⟨x, hxe⟩ : ∃ x, x = el am k := ⟨_, rfl⟩
      rw [← hxe] at hck htk hx
      have Hst : Hid (allOf gs (am.take (k + 1)) = allOf gs (am.take k) ++ rowN gs x) := by unfold Hid; rw [htk, allOf_snoc]
      clear hc hxe htk
      have hxi : (x : Int) < (gs.length : Int) := by omega
      have hx0 : (0 : Int) ≤ (x : Int) := by omega
      obtain ⟨bm, om, Ax, cx, rfl, hbm, hcm, hIx⟩ := HM2.out.at_ (k := x) (by rw [length_rowsI]; exact hx)
      rw [rowI_rowsI, length_natsI] at hcm
      rw [rowI_rowsI] at hIx
      have hcm2 : wr.cell? ⟨bm, om + x, none⟩ = .some (.slice Ax (rowN gs x).length cx) := (hB.cell (p := ⟨bm, om + x, none⟩) hbm).trans hcm
      have HIx := Lib.hid ((hIx.below hB).more hsz)
      have hrl := Hrl.out x
      clear hcm hIx
      obtain ⟨q, hq⟩ : ∃ q, q = allOf gs (am.take k) := ⟨_, rfl⟩
      rw [← hq] at hown hlen Hst
      have Hq := Lib.hid hq
      clear hq
      go_wp2_with (at_builtin; refine wpList_append_ints rfl (.tmp 20) (.tmp 24) rfl w2.heap.size _ q.length (natsV q) rfl hown _ Ax (natsI (rowN gs x)) cx (rowN gs x).length (length_natsI _).symm rfl HIx.out (by omega) hsz ?_; intro v5 w5 hown5 hgrow5; have hB5 : Below w2.heap.size w2 w5 := hB.grown hgrow5 hsz (fun j e => (hown.lt j e).1); have Hown5 := Lib.hid hown5; have HB5 := Lib.hid hB5; clear hown5 hB5 hgrow5)
      go_roundw
      case rel =>
        refine ⟨k + 1, by omega, by go_num, ?_, HB5.out⟩
        rw [Hst.out, List.length_append]
        have e : natsV (q ++ rowN gs x) = natsV q ++ intsV (natsI (rowN gs x)) := by rw [← natsV_intsV]; simp [natsV]
        rw [e]; exact Hown5.out
      case measure => simp [intOf]; omega
    · have hlti : ¬ (k : Int) < (am.length : Int) := by omega
      obtain rfl : k = am.length := by omega
      rw [List.take_length] at hown hlen
      obtain ⟨q, hq⟩ : ∃ q, q = allOf gs am := ⟨_, rfl⟩
      rw [← hq] at hown hlen Hx
      have ho := hown
      rw [natsV_intsV] at ho
      obtain ⟨A5, c5, rfl, _, _, hI5⟩ := own_ints (n := q.length) ho
      have Hfin := Lib.hid (among_at A5 c5 (natsI q).length (natsI q) 64 rfl (Nat.le_refl _) (by rw [length_natsI]; omega) wr hI5)
      have HB5 := Lib.hid (HB2.out.trans (hB.mono HB2.out.size))
      clear hq hown ho hI5 hB
      go_wp2_with fail
      refine Hfin.out.mono ?_
      rintro e w7 ⟨A7, c7, rfl, hI7, hB7⟩
      have HI7 := Lib.hid hI7
      have HB7 := Lib.hid (HB5.out.trans (hB7.mono HB5.out.size))
      clear hI7 hB7 Hfin
      go_wp2_with fail
      go_ret
      unfold IntsSays
      rw [Hx.out]
      exact ⟨A7, c7, rfl, HI7.out, HB7.out⟩
end Go.Proofs.Ytkfjkhacchbkeaa
