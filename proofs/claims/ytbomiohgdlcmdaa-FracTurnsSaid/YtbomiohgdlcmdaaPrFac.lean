/-
  Factor, walked.
-/
import Derived.Test.YtbomiohgdlcmdaaPrWalks
import Derived.Laws.OwnMore
namespace Go.Proofs.Ytbomiohgdlcmdaa
open Go.RowKit
open Pr

/-- The cells of a list of powers. -/
def pcs (l : List (Int × Nat)) : List Value := l.flatMap fun x => [.int .i64 x.1, .int .i64 (x.2 : Nat)]

theorem owns_ex {w w2 : World} {base : Nat} {e : TypeId} {size : Nat} {v : Value} {n : Nat} {xs : List Value} (h : w.ownsRow base e size v n xs) (hx : Ex w w2) : w2.ownsRow base e size v n xs := by
  refine ⟨h.1, ?_⟩
  rcases h.2 with hn | ⟨g, cap, cur, rfl, hb, hgg, rest⟩
  · exact .inl hn
  · refine .inr ⟨g, cap, cur, rfl, hb, ?_, rest⟩
    rw [hx.block g (Array.getElem?_eq_some_iff.1 hgg).1]
    exact hgg

theorem cell_two0 {w : World} {b : Nat} {u v : Value} {t : TypeId} (h : w.heap[b]? = some (.cells #[u, v] t (0, 0))) : w.cell? ⟨b, 0, none⟩ = some u := by simp [World.cell?, h]
theorem cell_two1 {w : World} {b : Nat} {u v : Value} {t : TypeId} (h : w.heap[b]? = some (.cells #[u, v] t (0, 0))) : w.cell? ⟨b, 1, none⟩ = some v := by simp [World.cell?, h]
theorem free_two {w : World} {b : Nat} {u v : Value} {t : TypeId} (h : w.heap[b]? = some (.cells #[u, v] t (0, 0))) (i : Nat) : w.frozen? ⟨b, i, none⟩ = false := by simp [World.frozen?, h]
theorem two_set1 {w : World} {b : Nat} {u v x : Value} {t : TypeId} (h : w.heap[b]? = some (.cells #[u, v] t (0, 0))) : (w.setCell ⟨b, 1, none⟩ x).heap[b]? = some (.cells #[u, x] t (0, 0)) := by
  have hb := lt_of_block h
  unfold World.setCell
  simp only [Array.getElem?_modify, if_true, h]
  simp

theorem news_two (w : World) (u v : Value) (t : TypeId) : ∀ j x, [u, v][j]? = some x → (w.alloc (.cells #[u, v] t)).cell? ((⟨w.heap.size, 0, none⟩ : Addr).add j) = some x := by
  intro j x hj
  have hb : (w.alloc (.cells #[u, v] t)).heap[w.heap.size]? = some (.cells #[u, v] t (0, 0)) := heap_alloc_new _ _
  match j, hj with
  | 0, hj => simp at hj; subst hj; exact cell_two0 hb
  | 1, hj => simp at hj; subst hj; exact cell_two1 hb

theorem two_oneCell (k : IntKind) (a b : Int) : ∀ u ∈ [Value.int k a, Value.int k b], u.oneCell' = true := by
  intro u hu
  simp at hu
  rcases hu with rfl | rfl <;> rfl

theorem pcs_snoc (l : List (Int × Nat)) (q : Int) (j : Nat) : pcs (l ++ [(q, j)]) = pcs l ++ [.int .i64 q, .int .i64 (j : Nat)] := by simp [pcs]

/-- What an append leaves has grown out of what was before the call. -/
theorem ex_append {w a b : World} {v : Value} {e : TypeId} {size n : Nat} {xs : List Value} (h : Ex w a) (hown : a.ownsRow w.heap.size e size v n xs) (hg : a.grownBy b v.ownBlock) : Ex w b :=
  Below.grown h hg h.size fun k hk => (hown.lt k hk).1

theorem info_power : (Try.prog.info? 67).map (fun i => (i.zero, i.size, i.bytes)) = some (some (.agg #[.int .i64 0, .int .i64 0]), 2, 16) := by kernel_rfl

set_option maxRecDepth 100000 in
set_option maxHeartbeats 1000000 in
theorem factor_ok (n : Int) (w : World) (h1 : 1 ≤ n) (h2 : n ≤ 1000000) :
    Calls Try.prog 34 #[.int .i64 n] w (fun e w2 => ∃ v : Value, e = .returned (.tuple #[v, .int .i64 0]) ∧ ∃ l : List (Int × Nat), Fac n l ∧ l.length ≤ 1000000 ∧ w2.ownsRow w.heap.size 67 2 v l.length (pcs l) ∧ Ex w w2) := by
  go_enter Try.func34, Try.ntmps34
  go_wp2
  go_loopg [0, 4] n.toNat (fun k v0 v4 wr => ∃ (m : Int) (l : List (Int × Nat)), 1 ≤ m ∧ m ≤ 1000000 ∧ Hid ((l.length : Int) + m ≤ n) ∧ v0 = .int .i64 m ∧ Hid (FacS n l m) ∧ Hid (wr.ownsRow w.heap.size 67 2 v4 l.length (pcs l)) ∧ Hid (k = m.toNat) ∧ Ex w wr)
  case atStart => exact ⟨n, [], h1, h2, Lib.hid (by simp), rfl, Lib.hid (FacS.start n), Lib.hid (World.ownsRow_nil _ _ _ _), Lib.hid rfl, Ex.refl _⟩
  case round =>
    obtain ⟨m, l, m1, m2, hl, rfl, hF, hown, hk, hw⟩ := hrel
    by_cases hm : 1 < m
    · obtain ⟨q, hq⟩ := mf_some (n := m) (by omega)
      have HQ := Lib.hid hq
      clear hq
      go_wp2_with (
        (go_at_call 39; refine (smallest_ok _ q _ (by omega) (by omega) HQ.out).mono ?_; rintro e w2 ⟨rfl, hw2⟩))
      go_loopg [0] m.toNat (fun k2 v0 x => ∃ (c : Int) (j : Nat), 1 ≤ c ∧ c ≤ 1000000 ∧ (j : Int) ≤ 1000000 ∧ Hid ((j : Int) + c ≤ m) ∧ v0 = .int .i64 c ∧ Hid (m = q ^ j * c) ∧ Hid (k2 = c.toNat) ∧ Hid (x.heap[w2.heap.size]? = some (.cells #[.int .i64 q, .int .i64 j] 67 (0, 0))) ∧ Ex w2 x)
      case atStart => exact ⟨m, 0, by omega, by omega, by omega, Lib.hid (by omega), rfl, Lib.hid (by simp), Lib.hid rfl, Lib.hid (heap_alloc_new _ _), (Ex.refl _).alloc _⟩
      case round =>
        obtain ⟨c, j, c1, c2, c3, hc, rfl, hp, hk2, hb, hx⟩ := hrel
        have q2 := HQ.out.1
        have hc0 := cell_two0 hb.out
        have hc1 := cell_two1 hb.out
        have hf1 := free_two hb.out 1
        by_cases hd : c % q = 0
        · have HD := Lib.hid (divided q2 c1 hp.out (emod_dvd hd))
          have d1 := HD.out.2.1
          have d2 := HD.out.2.2
          have hc' := hc.out
          have c4 : (j : Int) + 1 ≤ 1000000 := by omega
          have hx2 := Lib.hid (hx.setCell (Nat.le_refl _) (p := ⟨w2.heap.size, 1, none⟩) (.int .i64 ((j : Int) + 1)))
          have hb2 := Lib.hid (two_set1 hb.out (x := .int .i64 ((j : Int) + 1)))
          clear hc'
          go_wp2
          go_roundg (c / q).toNat
          case measure => have := hk2.out; omega
          case rel => exact ⟨c / q, j + 1, d1, by omega, by omega, Lib.hid (by have := hc.out; omega), rfl, Lib.hid HD.out.1, Lib.hid rfl, Lib.hid (by simpa using hb2.out), hx2.out⟩
        · have HD : Hid (¬ q ∣ c) := fun h => hd (Int.emod_eq_zero_of_dvd h)
          have hj1 : 1 ≤ j := by
            refine Decidable.byContradiction fun h0 => HD.out ?_
            obtain rfl : j = 0 := by omega
            have h3 := hp.out
            simp at h3
            rw [← h3]; exact HQ.out.2.1
          have HOWN := Lib.hid (owns_ex (owns_ex (owns_ex hown.out hw2) hx) ((Ex.refl wr).alloc (.cells #[.int .i64 q, .int .i64 j] 67)))
          have HX := Lib.hid (((hw.trans hw2).trans hx).alloc (.cells #[.int .i64 q, .int .i64 j] 67))
          have HL : Hid (l.length + 1 ≤ 1000000) := by have := hl.out; have : l.length + 1 ≤ 1000000 := by omega
                                                       exact this
          obtain ⟨i0, hi, hz0, hz1, hz2⟩ := info_parts info_power
          have HI := Lib.hid hi
          have HZ0 := Lib.hid hz0
          have HZ1 := Lib.hid hz1
          have HZ2 := Lib.hid hz2
          clear hi hz0 hz1 hz2 hown
          go_wp2_with (
            (at_builtin; refine wpList_append_own _ rfl _ _ 63 rfl w.heap.size 67 i0 _ 2 16 Try.underlying63 HI.out HZ0.out HZ1.out HZ2.out rfl (by decide) _ _ _ rfl HOWN.out ⟨wr.heap.size, 0, none⟩ 1 1 [.int .i64 q, .int .i64 j] rfl rfl (news_two _ _ _ _) (two_oneCell _ _ _) (by have := HL.out; unfold maxLen; omega) (by have := HL.out; omega) HX.out.size ?_; intro v' w3 hown3 hgrow3 _))
          have HX3 := Lib.hid (ex_append HX.out HOWN.out hgrow3)
          clear hgrow3
          have HR := Lib.hid (hF.out.step HQ.out hj1 c1 hp.out HD.out)
          go_wp2
          go_roundg c.toNat
          case measure =>
            have h3 := hk.out
            have h4 := hc.out
            omega
          case rel => exact ⟨c, l ++ [(q, j)], c1, c2, Lib.hid (by have := hl.out; have := hc.out; simp; omega), rfl, HR, Lib.hid (by rw [pcs_snoc, List.length_append]; exact hown3), Lib.hid rfl, HX3.out⟩
    · have e : m = 1 := by omega
      subst e
      go_wp2
      go_ret2
      exact ⟨_, rfl, l, hF.out.all, by have := hl.out; omega, hown.out, hw⟩

set_option maxHeartbeats 400000 in
theorem factor_no (n : Int) (w : World) (h : n < 1 ∨ 1000000 < n) :
    Calls Try.prog 34 #[.int .i64 n] w (Says (.tuple #[.slice none 0 0, .int .i64 1]) w) := by
  rcases h with h | h
  all_goals
    go_enter Try.func34, Try.ntmps34
    go_wp2
    go_ret2
    exact ⟨rfl, Ex.refl _⟩

end Go.Proofs.Ytbomiohgdlcmdaa
