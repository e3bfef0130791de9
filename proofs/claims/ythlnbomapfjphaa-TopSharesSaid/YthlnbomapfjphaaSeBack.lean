/-
  SecretBack, walked: SHAMIR, any so many.
-/
import Derived.Test.YthlnbomapfjphaaGse
import Derived.Test.YthlnbomapfjphaaPtMore
namespace Go.Proofs.Ythlnbomapfjphaa
open Go.RowKit
open Eu Pr Po Rs

theorem swap_perm {l : List (Int × Int)} {i j : Nat} (hi : i < l.length) (hj : j < l.length) : ((l.set i (nthR l j)).set j (nthR l i)).Perm l := by
  rw [nthR_eq hi, nthR_eq hj]
  exact List.set_set_perm hi hj

theorem shr_mem {p : Int} {f : List Int} {n : Nat} {a : Int × Int} (h : a ∈ shr p f n) : ∃ i, i < n ∧ a.1 = (i : Int) + 1 ∧ a.2 = ev f ((i : Int) + 1) % p := by
  unfold shr at h
  obtain ⟨i, hi, rfl⟩ := List.mem_map.mp h
  exact ⟨i, List.mem_range.mp hi, rfl, rfl⟩

/-- So many of the shares, in any order. -/
theorem some_shares {p : Int} {f : List Int} {n k : Nat} {l : List (Int × Int)} (hp : Prm p) (p9 : p ≤ 997) (hn : (n : Int) < p) (hl : l.Perm (shr p f n)) (hf : f.length ≤ k) (hk : k ≤ n) (hk12 : k ≤ 12) (hk0 : 0 < k) :
    joinE p (l.take k) = 0 ∧ IsTh p (l.take k) (l.take k).length (red p f) := by
  have p2 := hp.1
  have hlen : l.length = n := by rw [hl.length_eq, shr_length]
  have hlk : (l.take k).length = k := by rw [List.length_take]; omega
  have hpts0 : Pts p (shr p f n) (shr p f n).length := by rw [shr_length]; exact shr_pts hp f hn
  rw [pts_iff] at hpts0
  have hmem : ∀ a ∈ l.take k, a ∈ shr p f n := fun a ha => hl.mem_iff.mp (List.mem_of_mem_take ha)
  have hpts : Pts p (l.take k) (l.take k).length := by
    rw [pts_iff]
    refine ⟨fun a ha => hpts0.1 a (hmem a ha), ?_⟩
    have h1 : (l.map (·.1)).Nodup := (hl.map (·.1)).nodup_iff.mpr hpts0.2
    exact h1.sublist ((List.take_sublist k l).map _)
  refine ⟨joinE_zero.mpr ⟨ptE_zero.mpr ⟨hp, p9, by omega, hpts⟩, by omega, ?_⟩, ?_⟩
  · unfold hasP
    rw [List.any_eq_false]
    intro a ha
    obtain ⟨i, _, h1, _⟩ := shr_mem (hmem a ha)
    simp only [beq_iff_eq]
    omega
  · refine isTh_on (by omega) (by omega) fun i hi => ?_
    have ha : nthR (l.take k) i ∈ l.take k := nthR_mem hi
    obtain ⟨j, _, h1, h2⟩ := shr_mem (hmem _ ha)
    unfold px py
    rw [h1, h2]
    have := Int.dvd_neg.mpr (dvd_mod p (ev f ((j : Int) + 1)))
    rwa [Int.neg_sub] at this

theorem mods_bnd {p : Int} (hp : 0 < p) (xs : List Int) (k : Nat) : Bnd p ((xs.take k).map (· % p)) := fun x hx => by
  obtain ⟨y, _, rfl⟩ := List.mem_map.mp hx
  exact ⟨Int.emod_nonneg _ (by omega), Int.emod_lt_of_pos _ hp⟩

theorem join_shares {p : Int} {f : List Int} {n k : Nat} {l : List (Int × Int)} {s : Int} (hp : Prm p) (p9 : p ≤ 997) (hn : (n : Int) < p) (hl : l.Perm (shr p f n)) (hf : f.length ≤ k) (hk : k ≤ n) (hk12 : k ≤ 12) (hk0 : 0 < k) (hs : c f 0 % p = s)
    (w : World) (a : Option Addr) (cap : Nat) (hc : k ≤ cap) (hr : ReadsR w a (l.take k)) : Calls Try.prog 40 #[.int .i64 p, .slice a k cap] w (Says (.tuple #[.int .i64 s, .int .i64 0]) w) := by
  obtain ⟨h1, h2⟩ := some_shares hp p9 hn hl hf hk hk12 hk0
  have hlk : (l.take k).length = k := by rw [List.length_take, hl.length_eq, shr_length]; omega
  have := join_ok p (l.take k) (red p f) a cap w (by omega) hr h1 h2
  rw [hlk, red_zero, hs] at this
  exact this

theorem deal_tape {p s : Int} {ts : List Int} {T n : Nat} (hp : Prm p) (p9 : p ≤ 997) (hT : ts.length = T) (h11 : T ≤ 11) (hn : n ≤ 12) (hnp : (n : Int) < p) (hs : 0 ≤ s ∧ s < p) (hB : Bnd p ts) (w : World) (a : Option Addr) (cap : Nat) (hr : Reads w .i64 a ts) (hnil : a = none → cap = 0) :
    Calls Try.prog 38 #[.int .i64 p, .int .i64 s, .slice a T cap, .int .i64 n] w (Dealt (shr p (s :: ts) n) n w) := by
  subst hT
  exact deal_ok p s ts n a cap w hr hnil (dealE_zero.mpr ⟨hp, p9, h11, by omega, hs, hB⟩)


end Go.Proofs.Ythlnbomapfjphaa
