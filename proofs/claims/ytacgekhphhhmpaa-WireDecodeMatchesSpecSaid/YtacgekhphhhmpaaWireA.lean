/- Contracts of wire.magnitude, bits.Len64 and wire.leastDigits: what each returns; the world is as it was. -/
import Derived.Test.YtacgekhphhhmpaaProg
import Derived.Test.YtacgekhphhhmpaaWireMath
import Derived.WalkKit
import Derived.Lib.Hide
import Derived.Outline
import Derived.Lib.Strings
import Derived.Lib.Slices
import Derived.Lib.Small
import Derived.Lib.Walk
import Derived.Lib.BitFns
import Derived.Deep.Light
namespace Go.Proofs.Ytacgekhphhhmpaa
open Go.RowKit

theorem ret_int {k : IntKind} {a b : Int} (h : a = b) : Ending.returned (.int k a) = .returned (.int k b) := by rw [h]

theorem magnitude_any (n : Int) (w : World) (h : M.I64 n) :
    Calls Try.prog 38 #[.int .i64 n] w fun e w' => e = .returned (.int .u64 (M.mag n)) ∧ w = w' := by
  obtain ⟨h0, h1⟩ := h
  by_cases hn : n < 0
  · have hm : (M.mag n : Int) = -1 - n := by unfold M.mag; rw [if_pos hn]; omega
    go_enter Try.func38, Try.ntmps38
    go_wp2
    go_ret
    exact ⟨ret_int (by omega), rfl⟩
  · have hm : (M.mag n : Int) = n := by unfold M.mag; rw [if_neg hn]; omega
    go_enter Try.func38, Try.ntmps38
    go_wp2
    go_ret
    exact ⟨ret_int (by omega), rfl⟩

theorem len8tab_size : (Lib.len8tab.size : Int) = 256 := by
  have : Lib.len8tab.size = 256 := by decide +kernel
  omega
theorem wrap_add (k a b : Nat) (hk : k ≤ 56) (ha : a ≤ 8) (hb : b = k + a) : wrap64 ((k : Int) + wrap64 (a : Int)) = (b : Int) := by
  unfold wrap64
  omega
theorem wrap_wrap (a : Nat) (ha : a ≤ 8) : wrap64 (wrap64 (a : Int)) = (a : Int) := by
  unfold wrap64
  omega
theorem len8_get (y : Int) (h : y.toNat < Lib.len8tab.size) : ((Lib.len8tab[y.toNat]'h).toNat : Int) = Lib.len8 y := by
  unfold Lib.len8
  rw [getElem?_pos Lib.len8tab y.toNat h]
  rfl

set_option maxHeartbeats 4000000 in
set_option maxRecDepth 100000 in
theorem len64_any (x : Int) (w : World) (h0 : 0 ≤ x) (h1 : x ≤ 18446744073709551615) :
    Calls Try.prog 46 #[.int .u64 x] w fun e w' => e = .returned (.int .i64 (Lib.bitLen x.toNat)) ∧ w = w' := by
  go_enter Try.func46, Try.ntmps46
  go_wp2
  all_goals first
    | (go_ret; refine ⟨congrArg Ending.returned (congrArg (Value.int IntKind.i64) ?_), rfl⟩; go_light)
    | (exfalso
       go_light
       have hs := len8tab_size
       omega)
  all_goals first
    | (rw [len8_get (x / 4294967296 / 65536 / 256) _, Lib.len8_of (x / 4294967296 / 65536 / 256) (by omega) (by omega)]
       have e : (x / 4294967296 / 65536 / 256).toNat = x.toNat / 72057594037927936 := by omega
       have l := Lib.bitLen_le8' (x / 4294967296 / 65536 / 256) (by omega) (by omega)
       have s := Lib.bitLen_shift56 x.toNat (by omega) (by omega)
       rw [e] at l ⊢
       exact wrap_add 56 _ _ (by decide) l s)
    | (rw [len8_get (x / 4294967296 / 65536) _, Lib.len8_of (x / 4294967296 / 65536) (by omega) (by omega)]
       have e : (x / 4294967296 / 65536).toNat = x.toNat / 281474976710656 := by omega
       have l := Lib.bitLen_le8' (x / 4294967296 / 65536) (by omega) (by omega)
       have s := Lib.bitLen_shift48 x.toNat (by omega) (by omega)
       rw [e] at l ⊢
       exact wrap_add 48 _ _ (by decide) l s)
    | (rw [len8_get (x / 4294967296 / 256) _, Lib.len8_of (x / 4294967296 / 256) (by omega) (by omega)]
       have e : (x / 4294967296 / 256).toNat = x.toNat / 1099511627776 := by omega
       have l := Lib.bitLen_le8' (x / 4294967296 / 256) (by omega) (by omega)
       have s := Lib.bitLen_shift40 x.toNat (by omega) (by omega)
       rw [e] at l ⊢
       exact wrap_add 40 _ _ (by decide) l s)
    | (rw [len8_get (x / 4294967296) _, Lib.len8_of (x / 4294967296) (by omega) (by omega)]
       have e : (x / 4294967296).toNat = x.toNat / 4294967296 := by omega
       have l := Lib.bitLen_le8' (x / 4294967296) (by omega) (by omega)
       have s := Lib.bitLen_shift32 x.toNat (by omega) (by omega)
       rw [e] at l ⊢
       exact wrap_add 32 _ _ (by decide) l s)
    | (rw [len8_get (x / 65536 / 256) _, Lib.len8_of (x / 65536 / 256) (by omega) (by omega)]
       have e : (x / 65536 / 256).toNat = x.toNat / 16777216 := by omega
       have l := Lib.bitLen_le8' (x / 65536 / 256) (by omega) (by omega)
       have s := Lib.bitLen_shift24 x.toNat (by omega) (by omega)
       rw [e] at l ⊢
       exact wrap_add 24 _ _ (by decide) l s)
    | (rw [len8_get (x / 65536) _, Lib.len8_of (x / 65536) (by omega) (by omega)]
       have e : (x / 65536).toNat = x.toNat / 65536 := by omega
       have l := Lib.bitLen_le8' (x / 65536) (by omega) (by omega)
       have s := Lib.bitLen_shift16 x.toNat (by omega) (by omega)
       rw [e] at l ⊢
       exact wrap_add 16 _ _ (by decide) l s)
    | (rw [len8_get (x / 256) _, Lib.len8_of (x / 256) (by omega) (by omega)]
       have e : (x / 256).toNat = x.toNat / 256 := by omega
       have l := Lib.bitLen_le8' (x / 256) (by omega) (by omega)
       have s := Lib.bitLen_shift8 x.toNat (by omega) (by omega)
       rw [e] at l ⊢
       exact wrap_add 8 _ _ (by decide) l s)
    | (rw [len8_get x _, Lib.len8_of x (by omega) (by omega)]
       have l := Lib.bitLen_le8' x (by omega) (by omega)
       first | exact wrap_wrap _ l | exact wrap_add 0 _ _ (by decide) l (by omega))

theorem bitLen_lo : ∀ n : Fin 256, n.val ≠ 0 → 1 ≤ Lib.bitLen n.val := by decide +kernel
theorem bitLen_nb (m : Nat) (h : m < 18446744073709551616) : (Lib.bitLen m + 7) / 8 = M.nb m := by
  have lo : ∀ x, x ≠ 0 → x < 256 → 1 ≤ Lib.bitLen x ∧ Lib.bitLen x ≤ 8 := fun x hx hl => ⟨bitLen_lo ⟨x, hl⟩ hx, Lib.bitLen_le8 ⟨x, hl⟩⟩
  unfold M.nb
  by_cases h0 : m = 0
  · subst h0; rfl
  rw [if_neg h0]
  by_cases h1 : m < 256
  · rw [if_pos h1]; have := lo m h0 h1; omega
  rw [if_neg h1]
  by_cases h2 : m < 65536
  · rw [if_pos h2, Lib.bitLen_shift8 m (by omega) h]; have := lo (m / 256) (by omega) (by omega); omega
  rw [if_neg h2]
  by_cases h3 : m < 16777216
  · rw [if_pos h3, Lib.bitLen_shift16 m (by omega) h]; have := lo (m / 65536) (by omega) (by omega); omega
  rw [if_neg h3]
  by_cases h4 : m < 4294967296
  · rw [if_pos h4, Lib.bitLen_shift24 m (by omega) h]; have := lo (m / 16777216) (by omega) (by omega); omega
  rw [if_neg h4]
  by_cases h5 : m < 1099511627776
  · rw [if_pos h5, Lib.bitLen_shift32 m (by omega) h]; have := lo (m / 4294967296) (by omega) (by omega); omega
  rw [if_neg h5]
  by_cases h6 : m < 281474976710656
  · rw [if_pos h6, Lib.bitLen_shift40 m (by omega) h]; have := lo (m / 1099511627776) (by omega) (by omega); omega
  rw [if_neg h6]
  by_cases h7 : m < 72057594037927936
  · rw [if_pos h7, Lib.bitLen_shift48 m (by omega) h]; have := lo (m / 281474976710656) (by omega) (by omega); omega
  rw [if_neg h7, Lib.bitLen_shift56 m (by omega) h]; have := lo (m / 72057594037927936) (by omega) (by omega); omega

theorem leastDigits_any (m : Nat) (w : World) (h : m < 18446744073709551616) :
    Calls Try.prog 39 #[.int .u64 m] w fun e w' => e = .returned (.int .i64 (M.nb m)) ∧ w = w' := by
  have hb := bitLen_nb m h
  have hl := M.nb_le m
  have H := Lib.hid hb
  clear hb
  go_enter Try.func39, Try.ntmps39
  go_wp2_with fail
  refine (len64_any _ _ (by omega) (by omega)).mono ?_
  rintro e w' ⟨rfl, rfl⟩
  have hb := H.out
  go_wp2
  go_ret
  exact ⟨ret_int (by omega), rfl⟩
end Go.Proofs.Ytacgekhphhhmpaa
