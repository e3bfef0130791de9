/-
  A row of bytes as a text; strings.Contains for one byte that isn't there.
-/
import Derived.Test.YthlnbomapfjphaaGtb
import Derived.Test.YthlnbomapfjphaaBy
import Derived.Test.YthlnbomapfjphaaGrb
import Derived.Test.YthlnbomapfjphaaTx
import Derived.Lib.Bytealg
import Derived.RegionTactic
import Derived.BigRegion
namespace Go.Proofs.Ythlnbomapfjphaa
open Go.RowKit
open Gf

theorem idx_none : ∀ (l : List UInt8) (c : UInt8), c ∉ l → Lib.indexByte l c = -1 := by
  intro l
  induction l with
  | nil => intro c _; rfl
  | cons b l ih =>
    intro c h
    rw [Lib.indexByte]
    have h1 : (b == c) = false := beq_eq_false_iff_ne.mpr fun e => h (e ▸ List.mem_cons_self)
    rw [h1, ih c fun h2 => h (List.mem_cons_of_mem _ h2)]
    rfl

set_option maxRecDepth 100000 in
set_option maxHeartbeats 1000000 in
theorem sIndex_no (s : ByteArray) (c : UInt8) (w : World) (hn : c ∉ s.data.toList) : Calls Try.prog 123 #[.string s, .string (ByteArray.mk #[c])] w (Says (.int .i64 (-1)) w) := by
  have hc : (((c.toNat : Nat) : Int)).toNat.toUInt8 = c := by rw [Int.toNat_natCast]; exact UInt8.ofNat_toNat
  have hr := run_ibs s ((c.toNat : Nat) : Int) w
  rw [hc, idx_none _ _ hn] at hr
  have hcl : c.toNat < 256 := c.toNat_lt
  have h49 : ∀ h : 0 < (ByteArray.mk #[c]).size, ((ByteArray.mk #[c])[0]'h).toNat = c.toNat := fun _ => rfl
  obtain ⟨C, hC⟩ : ∃ C, c.toNat = C := ⟨_, rfl⟩
  rw [hC] at hr hcl h49
  have HB : Hid (Calls Try.prog 130 #[.string s, .int .u8 (C : Int)] w (Says (.int .i64 (-1)) w)) := Lib.hid (by
    clear h49
    go_enter Try.func130, Try.ntmps130
    go_wp2
    go_ret
    exact .same)
  have g0 : ((ByteArray.mk #[c]).toList == s.toList) = false := by
    rw [beq_eq_false_iff_ne]
    intro e
    rw [ByteArray.toList_eq, ByteArray.toList_eq] at e
    exact hn (by rw [← e]; simp)
  have hsz : (ByteArray.mk #[c]).size = 1 := rfl
  generalize ByteArray.mk #[c] = t at g0 h49 hsz ⊢
  clear hr hn hC hc
  go_enter Try.func123, Try.ntmps123
  go_wp2_with (go_at_call 130; (with_reducible refine (HB.out).mono ?_); rintro e w2 ⟨rfl, hw2⟩)
  go_ret
  exact ⟨rfl, hw2⟩

theorem contains_no (s : ByteArray) (c : UInt8) (w : World) (hn : c ∉ s.data.toList) : Calls Try.prog 51 #[.string s, .string (ByteArray.mk #[c])] w (Says (.bool false) w) := by
  have HS : Hid (Calls Try.prog 98 #[.string s, .string (ByteArray.mk #[c])] w (Says (.int .i64 (-1)) w)) := Lib.hid (by
    have HI := Lib.hid (sIndex_no s c w hn)
    clear hn
    go_enter Try.func98, Try.ntmps98
    go_wp2_with (go_at_call 123; (with_reducible refine (HI.out).mono ?_); rintro e w2 ⟨rfl, hw2⟩)
    go_ret
    exact ⟨rfl, hw2⟩)
  clear hn
  go_enter Try.func51, Try.ntmps51
  go_wp2_with (go_at_call 98; (with_reducible refine (HS.out).mono ?_); rintro e w2 ⟨rfl, hw2⟩)
  go_ret
  exact ⟨rfl, hw2⟩

end Go.Proofs.Ythlnbomapfjphaa
