/- Contracts of 'there', 'mask', 'Get', and of the document's own 'Get'. -/
import Derived.Test.YtceppcmcokkkoaaProg
import Derived.Test.YtceppcmcokkkoaaA
import Derived.WalkKit
import Derived.WalkLawsBesides
import Derived.WalkSpells
import Derived.Deep.QuietTactic
import Derived.BigQuiet
import Derived.Lib.Hide
namespace Go.Proofs.Ytceppcmcokkkoaa
open Go.RowKit

theorem ret_int {k : IntKind} {a b : Int} (h : a = b) : Ending.returned (.int k a) = .returned (.int k b) := by rw [h]
theorem ret_bool {a b : Bool} (h : a = b) : Ending.returned (.bool a) = .returned (.bool b) := by rw [h]

theorem there_any (n : Nat) (i : Int) (w : World) (hi : -9223372036854775808 ≤ i ∧ i ≤ 9223372036854775807) :
    Calls Try.prog 58 #[.int .i64 n, .int .i64 i] w fun e w' => e = .returned (.bool (hasB n i)) ∧ w = w' := by
  by_cases h0 : 0 ≤ i
  · go_enter Try.func58, Try.ntmps58
    go_wp2
    go_ret
    exact ⟨by simp [hasB, h0], rfl⟩
  · go_enter Try.func58, Try.ntmps58
    go_wp2
    go_ret
    exact ⟨by simp [hasB]; omega, rfl⟩

theorem mask_any (i : Int) (w : World) (h0 : 0 ≤ i) (h1 : i ≤ 9223372036854775807) :
    Calls Try.prog 59 #[.int .i64 i] w fun e w' => e = .returned (.int .u8 (mk8 i)) ∧ w = w' := by
  have e : (2 : Int) ^ (i % 8).toNat % 256 = mk8 i := by
    unfold mk8
    have h2 : (i % 8).toNat < 8 := by omega
    generalize (i % 8).toNat = k at h2
    have : ∀ k : Fin 8, (2 : Int) ^ k.val % 256 = 2 ^ k.val := by decide
    exact this ⟨k, h2⟩
  have E := Lib.hid e
  clear e
  go_enter Try.func59, Try.ntmps59
  go_wp2
  go_ret
  exact ⟨ret_int E.out, rfl⟩

theorem and_bit (x : Int) (k : Nat) (hx : 0 ≤ x ∧ x ≤ 255) : (bits .and .u8 x (mk8 k) != 0) = x.toNat.testBit (k % 8) := by
  have : ∀ (x : Fin 256) (k : Fin 8), (bits .and .u8 (x.val : Int) (2 ^ k.val) != 0) = x.val.testBit k.val := by decide +kernel
  obtain ⟨x, rfl⟩ := Int.eq_ofNat_of_zero_le hx.1
  have h := this ⟨x, by omega⟩ ⟨k % 8, by omega⟩
  unfold mk8
  rwa [show ((k : Int) % 8).toNat = k % 8 from by omega]
theorem shr_bit (x : Int) (k : Nat) (hx : 0 ≤ x ∧ x ≤ 255) : (bits .and .u8 (x / 2 ^ (k % 8)) 1 == 1) = x.toNat.testBit (k % 8) := by
  have : ∀ (x : Fin 256) (k : Fin 8), (bits .and .u8 ((x.val : Int) / 2 ^ k.val) 1 == 1) = x.val.testBit k.val := by decide +kernel
  obtain ⟨x, rfl⟩ := Int.eq_ofNat_of_zero_le hx.1
  exact this ⟨x, by omega⟩ ⟨k % 8, by omega⟩

theorem quiet_left {P : Program} {f : FuncId} {args : Array Value} {w : World} {n : Nat} {v : Value}
    (h : Calls P f args (w.drewN n) fun e w' => e = .returned v ∧ w.drewN n = w') : Calls P f args (w.drewN n) fun e w'' => e = .returned v ∧ ∃ m, w'' = w.drewN m :=
  h.mono fun _ _ ⟨he, hm⟩ => ⟨he, n, hm.symm⟩

theorem there_no (n : Nat) (i : Int) (w : World) (hi : -9223372036854775808 ≤ i ∧ i ≤ 9223372036854775807) (hh : hasB n i = false) :
    Calls Try.prog 58 #[.int .i64 n, .int .i64 i] w fun e w' => e = .returned (.bool false) ∧ w = w' := by
  have := there_any n i w hi
  rwa [hh] at this
theorem there_yes (n : Nat) (i : Int) (w : World) (hi : -9223372036854775808 ≤ i ∧ i ≤ 9223372036854775807) (hh : hasB n i = true) :
    Calls Try.prog 58 #[.int .i64 n, .int .i64 i] w fun e w' => e = .returned (.bool true) ∧ w = w' := by
  have := there_any n i w hi
  rwa [hh] at this
theorem hasB_out {n : Nat} {i : Int} (h : hasB n i = true) : 0 ≤ i ∧ i / 8 < n := by simpa [hasB] using h
theorem hasB_not {n : Nat} {i : Int} (h : hasB n i = false) : i < 0 ∨ (n : Int) ≤ i / 8 := by
  have : ¬ (0 ≤ i ∧ i / 8 < n) := by simpa [hasB] using h
  omega
theorem bitI_not {l : List Int} {i : Int} (h : hasB l.length i = false) : bitI l i = false := by
  rcases hasB_not h with h | h
  · simp [bitI]; omega
  · unfold bitI bitN
    rw [nth_ge (by omega)]
    simp

theorem get_any (A : Option Addr) (c : Nat) (l : List Int) (i : Int) (w : World) (B : Nat) (hb : Bts w B A l) (hl : l.length ≤ maxLen) (hi : -9223372036854775808 ≤ i ∧ i ≤ 9223372036854775807) :
    Calls Try.prog 34 #[.slice A l.length c, .int .i64 i] w fun e w' => e = .returned (.bool (bitI l i)) ∧ ∃ n, w' = w.drewN n := by
  unfold maxLen at hl
  cases hh : hasB l.length i with
  | false =>
    have H := Lib.hid hh
    clear hh
    go_enter Try.func34, Try.ntmps34
    go_wp2_with fail
    go_quiet ((go_at_call 58; exact quiet_left (there_no _ _ _ hi H.out)))
    go_wp2
    go_ret
    exact ⟨ret_bool (bitI_not H.out).symm, _, rfl⟩
  | true =>
    have H := Lib.hid hh
    obtain ⟨h0, h1⟩ := hasB_out hh
    clear hh
    obtain ⟨k, rfl⟩ := Int.eq_ofNat_of_zero_le h0
    have hk : k / 8 < l.length := by omega
    obtain ⟨b, off, rfl, hbB, hc⟩ := hb.at_ hk
    have hx := hb.1.nth (k / 8)
    have E : Hid ((bits .and .u8 (nth l (k / 8)) (mk8 k) != 0) = bitI l k) := by
      unfold Hid
      rw [and_bit _ _ hx]
      simp [bitI, bitN]
    go_enter Try.func34, Try.ntmps34
    go_wp2_with fail
    go_quiet ((first | (go_at_call 58; exact quiet_left (there_yes _ _ _ hi H.out)) | (go_at_call 59; exact quiet_left (mask_any _ _ (by omega) (by omega)))))
    go_wp2
    go_ret
    exact ⟨ret_bool E.out, _, rfl⟩

theorem refget_any (A : Option Addr) (c : Nat) (l : List Int) (i : Int) (w : World) (B : Nat) (hb : Bts w B A l) (hl : l.length ≤ maxLen) (hi : -9223372036854775808 ≤ i ∧ i ≤ 9223372036854775807) :
    Calls Try.prog 35 #[.slice A l.length c, .int .i64 i] w fun e w' => e = .returned (.bool (bitI l i)) ∧ w = w' := by
  unfold maxLen at hl
  cases hh : hasB l.length i with
  | false =>
    have E := Lib.hid (bitI_not hh)
    rcases hasB_not hh with h | h
    · clear hh
      go_enter Try.func35, Try.ntmps35
      go_wp2
      go_ret
      exact ⟨ret_bool E.out.symm, rfl⟩
    · clear hh
      by_cases h0 : 0 ≤ i
      · go_enter Try.func35, Try.ntmps35
        go_wp2
        go_ret
        exact ⟨ret_bool E.out.symm, rfl⟩
      · go_enter Try.func35, Try.ntmps35
        go_wp2
        go_ret
        exact ⟨ret_bool E.out.symm, rfl⟩
  | true =>
    obtain ⟨h0, h1⟩ := hasB_out hh
    clear hh
    obtain ⟨k, rfl⟩ := Int.eq_ofNat_of_zero_le h0
    have hk : k / 8 < l.length := by omega
    obtain ⟨b, off, rfl, hbB, hc⟩ := hb.at_ hk
    have hx := hb.1.nth (k / 8)
    have E : Hid ((bits .and .u8 (nth l (k / 8) / 2 ^ (k % 8)) 1 == 1) = bitI l k) := by
      unfold Hid
      rw [shr_bit _ _ hx]
      simp [bitI, bitN]
    go_enter Try.func35, Try.ntmps35
    go_wp2
    go_ret
    exact ⟨ret_bool E.out, rfl⟩
end Go.Proofs.Ytceppcmcokkkoaa
