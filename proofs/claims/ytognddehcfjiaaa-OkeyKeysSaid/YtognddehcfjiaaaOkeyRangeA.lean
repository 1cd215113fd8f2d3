/- append of parts that came back from a call, nil among them. -/
import Derived.Test.YtognddehcfjiaaaOkeyBack
namespace Go.Proofs.Ytognddehcfjiaaa
open Go.RowKit
set_option linter.unusedVariables false

theorem run_append_nilsrc {P : Program} (w : World) (t ty e : TypeId) (i : TypeInfo) (base size : Nat) (ht : P.underlying t = some (.slice e)) (hi : P.info? e = some i)
    (v : Value) (n : Nat) (xs : List Value) (hown : w.ownsRow base e size v n xs) (c : Nat) : (Builtin.append_ #[t, t] ty #[v, .slice none 0 c]).run P w = .ok v w := by
  rcases hown.2 with ⟨rfl, rfl⟩ | ⟨g, cap, cur, rfl, hbg, hg, hnc, hcm, hcs, htake⟩
  · simp [Builtin.append_, run_underlying ht, sizeOf, typeInfo, hi, Builtin.lenOf, Builtin.firstCells]
  · simp [Builtin.append_, run_underlying ht, sizeOf, typeInfo, hi, Builtin.lenOf, Builtin.firstCells, hnc, storeCells]

theorem cellsP_length (ps : List Pt) : (ps.flatMap cellsP).length = ps.length * 3 := by
  induction ps with
  | nil => rfl
  | cons p ps ih => rw [List.flatMap_cons, List.length_append, ih, List.length_cons]; show 3 + _ = _; omega

/-- append(v, x...) of parts: x any slice that reads so. -/
theorem run_append_seesP (w : World) (ty : TypeId) (base : Nat) (v : Value) (qs : List Pt) (hown : OwnsP w base v qs) (ao : Option Addr) (n c : Nat) (ps : List Pt) (hs : SeesP w (.slice ao n c) ps)
    (hl : qs.length + n ≤ 1000000000) (hbase : base ≤ w.heap.size) :
    ∃ v' w', (Builtin.append_ #[22, 22] ty #[v, .slice ao n c]).run Try.prog w = .ok v' w' ∧ OwnsP w' base v' (qs ++ ps) ∧ w.grownBy w' v.ownBlock := by
  obtain ⟨i0, hi, hz0, hz1, hz2⟩ := info_parts info_part
  have hraw : w.ownsRow base 28 3 v qs.length (qs.flatMap cellsP) := hown
  obtain ⟨hlen, b, off, hc⟩ := hs.get
  have big : ∀ ad : Addr, ao = some ad → (∀ j u, (ps.flatMap cellsP)[j]? = some u → w.cell? (ad.add j) = some u) → ∃ v' w', (Builtin.append_ #[22, 22] ty #[v, .slice ao n c]).run Try.prog w = .ok v' w' ∧ OwnsP w' base v' (qs ++ ps) ∧ w.grownBy w' v.ownBlock := by
    intro ad had hcell
    subst had
    have hpl : (ps.flatMap cellsP).length = n * 3 := by
      rw [cellsP_length, hlen]
    have h1 : ∀ u ∈ ps.flatMap cellsP, u.oneCell' = true := by
      intro u hu
      obtain ⟨p, _, hp⟩ := List.mem_flatMap.1 hu
      simp only [cellsP, List.mem_cons, List.not_mem_nil, or_false] at hp
      rcases hp with rfl | rfl | rfl <;> rfl
    obtain ⟨v', w', hr, h2, h3, _⟩ := run_append_keeps (P := Try.prog) w base 22 ty 28 i0 _ 3 32 Try.underlying22 hi hz0 hz1 hz2 rfl (by omega) v _ _ hraw ad n c _ hpl hcell h1 (by unfold maxLen; omega) (by omega) hbase
    refine ⟨v', w', hr, ?_, h3⟩
    unfold OwnsP
    rw [List.length_append, List.flatMap_append, hlen]
    exact h2
  by_cases h0 : n = 0
  · subst h0
    obtain rfl : ps = [] := List.eq_nil_of_length_eq_zero hlen
    cases ao with
    | none => exact ⟨v, w, run_append_nilsrc w _ _ _ i0 base 3 Try.underlying22 hi v _ _ hraw c, by rw [List.append_nil]; exact hown, ⟨rfl, rfl, rfl, Nat.le_refl _, fun _ _ _ => rfl⟩⟩
    | some ad => exact big ad rfl (fun j u hu => by simp at hu)
  · obtain ⟨rfl, hlt, _⟩ := hc 0 (by omega)
    refine big _ rfl ?_
    intro j u hu
    have hj : j < ps.length * 3 := by
      have h1 := (List.getElem?_eq_some_iff.1 hu).1
      have h2 := cellsP_length ps
      omega
    have hadd : (⟨b, off, none⟩ : Addr).add j = ⟨b, off + j, none⟩ := by unfold Addr.add; split <;> simp_all
    rw [hadd]
    obtain ⟨i, r, hir, hr3⟩ : ∃ i r, j = i * 3 + r ∧ r < 3 := ⟨j / 3, j % 3, by omega, by omega⟩
    have hi' : i < ps.length := by omega
    obtain ⟨_, _, p0, p1, p2⟩ := hc i (by omega)
    obtain ⟨q0, q1, q2⟩ := cellsP_at ps i hi'
    have : r = 0 ∨ r = 1 ∨ r = 2 := by omega
    subst hir
    rcases this with rfl | rfl | rfl
    · rw [Nat.add_zero] at hu ⊢
      rw [p0, ← q0, hu]
    · rw [← Nat.add_assoc, p1, ← q1, hu]
    · rw [← Nat.add_assoc, p2, ← q2, hu]

theorem wpList_append_seesP {w : World} {ops : Array Oper} {rest : List Oper} {o : Oper} {a : Act} {Q : Exit → Act → World → Prop} (hgd : o.guard = none) (s x : Operand)
    (ho : o.op = .call { callee := .builtin .append, args := #[s, x], argTypes := #[22, 22] })
    (base : Nat) (v : Value) (qs : List Pt) (hs : a.eval s = v) (hown : OwnsP w base v qs) (ao : Option Addr) (n c : Nat) (ps : List Pt) (hx : a.eval x = .slice ao n c) (hsee : SeesP w (.slice ao n c) ps)
    (hl : qs.length + n ≤ 1000000000) (hbase : base ≤ w.heap.size)
    (h : ∀ v' w', OwnsP w' base v' (qs ++ ps) → w.grownBy w' v.ownBlock → wpList Try.prog ops Q rest (a.put o.dst v') w') : wpList Try.prog ops Q (o :: rest) a w := by
  refine wpList_plain hgd fun K hK => ?_
  obtain ⟨v', w', hr, h2, h3⟩ := run_append_seesP w o.type base v qs hown ao n c ps hsee hl hbase
  unfold Oper.wp execOp
  simp only [ho, resolve, invoke, builtin, Sem.run_bind, Sem.run_pure, Result.andThen_ok, List.map_toArray, List.map_cons, List.map_nil, hs, hx, hr]
  exact hK _ _ (h v' w' h2 h3)

theorem ownsP_empty (w : World) : OwnsP (w.alloc (.cells #[] 28)) w.heap.size (.slice (some ⟨w.heap.size, 0, none⟩) 0 0) [] :=
  ⟨rfl, Or.inr ⟨w.heap.size, 0, #[], rfl, Nat.le_refl _, heap_alloc_new w _, Nat.le_refl _, by unfold maxLen; omega, rfl, rfl⟩⟩

end Go.Proofs.Ytognddehcfjiaaa
