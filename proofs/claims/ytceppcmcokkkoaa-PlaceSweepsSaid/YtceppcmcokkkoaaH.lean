/- The document's own Set, walked. -/
import Derived.Test.YtceppcmcokkkoaaG
import Derived.BigRegion
namespace Go.Proofs.Ytceppcmcokkkoaa
open Go.RowKit Go.Shelf

theorem refset_no (A : Option Addr) (c : Nat) (l : List Int) (i : Int) (on : Bool) (w : World) (hi : -9223372036854775808 ≤ i ∧ i ≤ 9223372036854775807) (hh : hasB l.length i = false) :
    Calls Try.prog 32 #[.slice A l.length c, .int .i64 i, .bool on] w fun e w' => e = .returned (.tuple #[.slice none 0 0, .int .i64 2]) ∧ w = w' := by
  rcases hasB_not hh with h | h
  · clear hh
    go_enter Try.func32, Try.ntmps32
    go_wp2
    go_ret2
    exact ⟨rfl, rfl⟩
  · clear hh
    by_cases h0 : 0 ≤ i
    · go_enter Try.func32, Try.ntmps32
      go_wp2
      go_ret2
      exact ⟨rfl, rfl⟩
    · go_enter Try.func32, Try.ntmps32
      go_wp2
      go_ret2
      exact ⟨rfl, rfl⟩

/-- a new slice that owns bytes -/
def OwnB (w : World) (B : Nat) (v : Value) (l : List Int) : Prop := w.ownsRow B 5 1 v l.length (bytesV l)
theorem info_own {w : World} {B g cap n : Nat} {l : List Int} (h : w.ownsRow B 5 1 (.slice (some ⟨g, 0, none⟩) n cap) n (bytesV l)) (hl : AllB l) : Bts w w.heap.size (some ⟨g, 0, none⟩) l ∧ l.length = n ∧ B ≤ g := by
  have hn : l.length = n := by have := h.1; simpa [bytesV] using this
  have hlt := h.lt g rfl
  refine ⟨⟨hl, fun hp => ⟨g, 0, rfl, hlt.2, fun j hj => ?_⟩⟩, hn, hlt.1⟩
  rw [Nat.zero_add, h.cellAt j (by omega), bytesV, List.getElem?_map, List.getElem?_eq_getElem hj, nth_lt hj]; rfl
theorem bytesV_set (l : List Int) (i : Nat) (v : Int) : (bytesV l).set i (.int .u8 v) = bytesV (l.set i v) := by
  unfold bytesV
  rw [List.map_set]
  rfl

theorem refget_at (A : Option Addr) (c : Nat) (l : List Int) (i : Nat) (w : World) (B : Nat) (v : Bool) (hb : Bts w B A l) (hl : l.length ≤ 1000) (hi : i ≤ 8000) (hv : bitN l i = v) :
    Calls Try.prog 35 #[.slice A l.length c, .int .i64 (i : Int)] w fun e w' => e = .returned (.bool v) ∧ w = w' := by
  have h := refget_any A c l (i : Int) w B hb (by unfold maxLen; omega) (by omega)
  have e : bitI l (i : Int) = v := by simp [bitI, hv]
  rwa [e] at h
theorem shl_mk8 (k : Nat) : (2 : Int) ^ (k % 8) % 256 = mk8 (k : Int) := by
  unfold mk8
  rw [show ((k : Int) % 8).toNat = k % 8 from by omega]
  have h2 : k % 8 < 8 := by omega
  generalize k % 8 = j at h2
  have : ∀ k : Fin 8, (2 : Int) ^ k.val % 256 = 2 ^ k.val := by decide
  exact this ⟨j, h2⟩

set_option maxRecDepth 100000 in
set_option maxHeartbeats 1000000 in
theorem refset_yes (A : Option Addr) (c : Nat) (l : List Int) (k : Nat) (on : Bool) (w : World) (hb : Bts w w.heap.size A l) (hl : l.length ≤ 1000) (hk : k / 8 < l.length) :
    Calls Try.prog 32 #[.slice A l.length c, .int .i64 k, .bool on] w fun e w' => ∃ v, e = .returned (.tuple #[v, .int .i64 0]) ∧
      Below w.heap.size w w' ∧ OwnB w' w.heap.size v (setB l k on) := by
  obtain ⟨b, off, rfl, hbB, _⟩ := hb.at_ hk
  obtain ⟨i0, hi, hz0, hz1, hz2⟩ := info_parts info5
  have hki : (k : Int) / 8 < (l.length : Int) := by omega
  have h0 : (0 : Int) ≤ (k : Int) := by omega
  have h63 : (k : Int) ≤ 9223372036854775807 := by omega
  have hnn : ¬ (l.length : Int) ≤ (k : Int) / 8 := by omega
  have hsrc : ∀ j v, (bytesV l)[j]? = some v → (w.alloc (.cells #[] 5)).cell? ((⟨b, off, none⟩ : Addr).add j) = some v := by
    intro j v hj
    rw [World.cell?_alloc_lt _ _ _ (by rw [show ((⟨b, off, none⟩ : Addr).add j).block = b from by unfold Addr.add; split <;> rfl]; exact hbB)]
    rw [bytesV, List.getElem?_map] at hj
    obtain ⟨x, hx, rfl⟩ := Option.map_eq_some_iff.1 hj
    have hj' : j < l.length := by
      rcases Nat.lt_or_ge j l.length with h | h
      · exact h
      · rw [List.getElem?_eq_none h] at hx; cases hx
    obtain ⟨b2, off2, e2, _, hc2⟩ := hb.at_ hj'
    injection e2 with e2; injection e2 with e3 e4; subst e3; subst e4
    rw [nth_lt hj'] at hc2
    rw [List.getElem?_eq_getElem hj'] at hx
    injection hx with hx
    rw [hx] at hc2
    have e : (⟨b, off, none⟩ : Addr).add j = ⟨b, off + j, none⟩ := by unfold Addr.add; split <;> simp_all
    rw [e]; exact hc2
  have Hsrc := Lib.hid hsrc
  clear hsrc
  have hown0 : (w.alloc (.cells #[] 5)).ownsRow w.heap.size 5 1 (.slice (some ⟨w.heap.size, 0, none⟩) 0 0) 0 [] := World.ownsRow_made w #[] 0 (Nat.le_refl _) (by simp) (by simp)
  have hall := hb.1
  have hlp : 0 < l.length := by omega
  have hk8 : k ≤ 8000 := by omega
  have Hshl := Lib.hid (shl_mk8 k)
  have Heq := Lib.hid (refSetB_eq l hall k on hk)
  unfold refSetB at Heq
  cases hbv : bitN l k <;> cases on
  all_goals
    have Hbv := Lib.hid hbv
    clear hbv
    go_enter Try.func32, Try.ntmps32
    go_wp2_with (at_builtin; refine wpList_append_own _ rfl _ _ 43 rfl w.heap.size 5 i0 (.int .u8 0) 1 1 Try.underlying43 hi hz0 hz1 hz2 rfl (by decide) _ _ _ rfl hown0 ⟨b, off, none⟩ l.length c (bytesV l) rfl ?c1 Hsrc.out ?c2 ?c3 ?c4 ?c5 ?_)
    case c1 => simp [bytesV]
    case c2 => intro v hv; obtain ⟨x, _, rfl⟩ := List.mem_map.1 hv; rfl
    case c3 => unfold maxLen; omega
    case c4 => omega
    intro v' w1 hown' hgrow _
    obtain ⟨g, cap, rfl, hg1, hg2⟩ := hown'.form hlp
    have hbe : Below w.heap.size w w1 := ((Below.refl _ w).alloc (Nat.le_refl _) _).grown hgrow (by simp) (fun j e => by cases e; exact Nat.le_refl _)
    have hb1 := hb.below hbe
    have hc1 : w1.cell? ⟨g, k / 8, none⟩ = some (.int .u8 (nth l (k / 8))) := by
      rw [hown'.cellAt _ (by omega), bytesV, List.getElem?_map, List.getElem?_eq_getElem hk, nth_lt hk]; rfl
    have hf1 : w1.frozen? ⟨g, k / 8, none⟩ = false := hown'.frozenAt _
    have Hown := Lib.hid hown'
    clear hown' hgrow
    go_wp2_with (first
      | (go_at_call 35; refine (refget_at _ c l k _ _ _ hb1 hl hk8 Hbv.out).mono ?_; rintro e w' ⟨rfl, rfl⟩))
    first
      | (go_ret2
         refine ⟨_, rfl, hbe, ?_⟩
         have he := Heq.out
         rw [Hbv.out, if_pos rfl] at he
         rw [← he]
         exact Hown.out)
      | (have hwr : IntKind.i64.wrap ((k : Int) / 8) = (k : Int) / 8 := IntWalk.i64_in _ (by omega)
         have hwm : IntKind.i64.wrap ((k : Int) % 8) = (k : Int) % 8 := IntWalk.i64_in _ (by omega)
         have hix : ((k : Int) / 8).toNat = k / 8 := by omega
         have him : ((k : Int) % 8).toNat = k % 8 := by omega
         go_region
         all_goals go_wp2
         go_ret2
         rw [Hshl.out]
         refine ⟨_, rfl, (hbe.setCell (p := ⟨g, k / 8, none⟩) hg1 _).drew, ?_⟩
         have he := Heq.out
         rw [Hbv.out, if_neg (by simp)] at he
         have hst := (Hown.out.stored (k / 8) (.int .u8 (bits .xor .u8 (nth l (k / 8)) (mk8 k)))).1.drew
         rw [bytesV_set, he] at hst
         unfold OwnB
         rw [length_setB]
         exact hst)
end Go.Proofs.Ytceppcmcokkkoaa
