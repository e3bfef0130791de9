/-
  append of one integer to a row that is read on: what lay in the row's old place lies there still.
-/
import Derived.Test.YthlnbomapfjphaaDoorGro
import Derived.Laws.OwnMore
namespace Go.Proofs.YthlnbomapfjphaaDoor
open Go.RowKit

/-- Behind an append the old place reads as before. -/
theorem run_append_old {P : Program} (w : World) (base : Nat) (t ty e : TypeId) (i : TypeInfo) (z : Value) (bytes : Nat) (ht : P.underlying t = some (.slice e)) (hi : P.info? e = some i) (hz : i.zero = some z)
    (hsize : i.size = 1) (hby : i.bytes = bytes) (hzs : z.cells.size = 1)
    (v : Value) (n : Nat) (xs : List Value) (hown : w.ownsRow base e 1 v n xs)
    (a : Addr) (m c : Nat) (news : List Value) (hl : news.length = m * 1) (hnews : ∀ j u, news[j]? = some u → w.cell? (a.add j) = some u) (h1 : ∀ u ∈ news, u.oneCell' = true)
    (h63 : n + m ≤ maxLen) (hbytes : (n + m) * bytes ≤ 140737488355328) (hbase : base ≤ w.heap.size) :
    ∃ v' w', (Builtin.append_ #[t, t] ty #[v, .slice (some a) m c]).run P w = .ok v' w' ∧ w'.ownsRow base e 1 v' (n + m) (xs ++ news) ∧ w.grownBy w' v.ownBlock ∧
      (v'.ownBlock = v.ownBlock ∨ v'.ownBlock = some w.heap.size) ∧ ∀ g cap, v = .slice (some ⟨g, 0, none⟩) n cap → ∀ j, j < n → w'.cell? ⟨g, j, none⟩ = w.cell? ⟨g, j, none⟩ := by
  obtain ⟨v', w', hr, h2, h3, _, h5⟩ := run_append_own_at (P := P) w base t ty e i z 1 bytes ht hi hz hsize hby hzs (by decide) v n xs hown a m c news hl hnews h1 h63 hbytes hbase
  refine ⟨v', w', hr, h2, h3, h5, fun g cap e1 j hj => ?_⟩
  subst e1
  by_cases hroom : n + m ≤ cap
  · obtain ⟨w2, hr2, h22, _⟩ := run_append_fits (P := P) w base t ty e i 1 ht hi hsize g n cap xs hown a m c news hl hnews h1 hroom
    rw [hr] at hr2
    injection hr2 with e2 e3
    subst e2; subst e3
    rw [h22.cellAt j (by omega), hown.cellAt j (by omega), List.getElem?_append_left (by have := hown.1; omega)]
  · have holds : ∀ j u, xs[j]? = some u → w.cell? ((⟨g, 0, none⟩ : Addr).add j) = some u := hown.cells (g := g) rfl
    have hr2 := run_append_grow (P := P) w t ty e i z ht hi hz ⟨g, 0, none⟩ n cap xs (by rw [hsize]; exact hown.1) holds a m c news (by rw [hsize]; exact hl) hnews (by omega) (by unfold maxLen at h63; omega) (growslice_fits (by omega) (by rw [hby]; exact hbytes))
    rw [hr] at hr2
    injection hr2 with e2 e3
    subst e3
    have hg : g < w.heap.size := by
      have hc := hown.cellAt j (by omega)
      rw [List.getElem?_eq_getElem (by have := hown.1; omega)] at hc
      exact World.block_lt_of_cell? w ⟨g, j, none⟩ hc
    have := heap_alloc_old w.drew (.cells (xs.toArray ++ news.toArray ++ Builtin.zeroCells z.cells (grownCap w (n + m) cap e - (n + m))) e) hg
    unfold World.cell?
    simp only [this]
    rfl

section
variable {P : Program} {w : World} {ops : Array Oper} {rest : List Oper} {o : Oper} {a : Act} {Q : Exit → Act → World → Prop}

/-- append of one integer, which lies in the block b; and the old place reads as before. -/
theorem wpList_append_old (hgd : o.guard = none) (s x : Operand) (t : TypeId) (ho : o.op = .call { callee := .builtin .append, args := #[s, x], argTypes := #[t, t] })
    (base : Nat) (e : TypeId) (k : IntKind) (bytes : Nat) (ht : P.underlying t = some (.slice e)) (hinfo : (P.info? e).map (fun i => (i.zero, i.size, i.bytes)) = some (some (.int k 0), 1, bytes))
    (v : Value) (xs : List Int) (hs : a.eval s = v) (hown : Row e k w base v xs) (d : Int) (b : Nat) (hx : a.eval x = .slice (some ⟨b, 0, none⟩) 1 1) (hb : w.cell? ⟨b, 0, none⟩ = some (.int k d))
    (h63 : xs.length + 1 ≤ maxLen) (hbytes : (xs.length + 1) * bytes ≤ 140737488355328) (hbase : base ≤ w.heap.size)
    (h : ∀ v' w', Row e k w' base v' (xs ++ [d]) → w.grownBy w' v.ownBlock → (∀ g cap, v = .slice (some ⟨g, 0, none⟩) xs.length cap → ∀ j, j < xs.length → w'.cell? ⟨g, j, none⟩ = w.cell? ⟨g, j, none⟩) → wpList P ops Q rest (a.put o.dst v') w') : wpList P ops Q (o :: rest) a w := by
  obtain ⟨i, hi, hz, hsz, hby⟩ := info_parts hinfo
  refine wpList_plain hgd fun K hK => ?_
  obtain ⟨v', w', hr, h2, h3, _, h5⟩ := run_append_old (P := P) w base t o.type e i _ bytes ht hi hz hsz hby rfl v xs.length (xs.map (Value.int k)) hown ⟨b, 0, none⟩ 1 1 [.int k d] rfl
    (by intro j u hj
        match j, hj with
        | 0, hj => simp at hj; subst hj; exact hb)
    (by intro u hu; simp at hu; subst hu; rfl) h63 hbytes hbase
  unfold Oper.wp execOp
  simp only [ho, resolve, invoke, builtin, Sem.run_bind, Sem.run_pure, Result.andThen_ok, List.map_toArray, List.map_cons, List.map_nil, hs, hx, hr]
  refine hK _ _ (h v' w' ?_ h3 h5)
  unfold Row
  simpa using h2
end

/-- What lay in a place that a row may have grown in. -/
theorem old_kept {e : TypeId} {k : IntKind} {w w2 : World} {base g N : Nat} {v : Value} {xs : List Int} {F : Nat → Value} (hr : Row e k w base v xs) (ho : ∀ i, i < N → w.cell? ⟨g, i, none⟩ = some (F i)) (hg : w.grownBy w2 v.ownBlock)
    (hs : ∀ g cap, v = .slice (some ⟨g, 0, none⟩) xs.length cap → ∀ j, j < xs.length → w2.cell? ⟨g, j, none⟩ = w.cell? ⟨g, j, none⟩) (hN : N ≤ xs.length) : ∀ i, i < N → w2.cell? ⟨g, i, none⟩ = some (F i) := by
  intro i hi
  by_cases hb : some g = v.ownBlock
  · rcases hr.form with ⟨rfl, _⟩ | ⟨g2, cap, rfl, _⟩
    · simp [Value.ownBlock] at hb
    · simp only [Value.ownBlock, Option.some.injEq] at hb
      subst hb
      rw [hs g cap rfl i (by omega)]
      exact ho i hi
  · exact hg.cell (ho i hi) hb

theorem info_word : (Tryd.prog.info? 39).map (fun i => (i.zero, i.size, i.bytes)) = some (some (.int .u16 0), 1, 2) := by kernel_rfl

end Go.Proofs.YthlnbomapfjphaaDoor
