/- append of texts: any slice of them that lies in memory, nil among them, onto one that the call owns. -/
import Derived.Test.YtnlfajikciijjaaOwnsT
import Derived.BigFrame
namespace Go.Proofs.Ytnlfajikciijjaa
open Go.RowKit

theorem run_append_nilsrc {P : Program} (w : World) (t ty e : TypeId) (i : TypeInfo) (base size : Nat) (ht : P.underlying t = some (.slice e)) (hi : P.info? e = some i)
    (v : Value) (n : Nat) (xs : List Value) (hown : w.ownsRow base e size v n xs) (c : Nat) : (Builtin.append_ #[t, t] ty #[v, .slice none 0 c]).run P w = .ok v w := by
  rcases hown.2 with ⟨rfl, rfl⟩ | ⟨g, cap, cur, rfl, hbg, hg, hnc, hcm, hcs, htake⟩
  · simp [Builtin.append_, run_underlying ht, sizeOf, typeInfo, hi, Builtin.lenOf, Builtin.firstCells]
  · simp [Builtin.append_, run_underlying ht, sizeOf, typeInfo, hi, Builtin.lenOf, Builtin.firstCells, hnc, storeCells]

theorem run_append_seesS (w : World) (ty : TypeId) (base : Nat) (v : Value) (qs : List ByteArray) (hown : OwnsS w base v qs) (ao : Option Addr) (n c : Nat) (ps : List ByteArray) (hs : SeesS w (.slice ao n c) ps)
    (hl : qs.length + n ≤ 1000000000) (hbase : base ≤ w.heap.size) :
    ∃ v' w', (Builtin.append_ #[22, 22] ty #[v, .slice ao n c]).run Try.prog w = .ok v' w' ∧ OwnsS w' base v' (qs ++ ps) ∧ w.grownBy w' v.ownBlock := by
  obtain ⟨i0, hi, hz0, hz1, hz2⟩ := info_parts info_string
  have hraw : w.ownsRow base 9 1 v qs.length (qs.map .string) := hown
  obtain ⟨hlen, b, off, hc⟩ := hs.get
  have big : ∀ ad : Addr, ao = some ad → (∀ j u, (ps.map Value.string)[j]? = some u → w.cell? (ad.add j) = some u) → ∃ v' w', (Builtin.append_ #[22, 22] ty #[v, .slice ao n c]).run Try.prog w = .ok v' w' ∧ OwnsS w' base v' (qs ++ ps) ∧ w.grownBy w' v.ownBlock := by
    intro ad had hcell
    subst had
    have hpl : (ps.map Value.string).length = n * 1 := by rw [List.length_map, hlen, Nat.mul_one]
    have h1 : ∀ u ∈ ps.map Value.string, u.oneCell' = true := by
      intro u hu
      obtain ⟨p, _, rfl⟩ := List.mem_map.1 hu
      rfl
    obtain ⟨v', w', hr, h2, h3, _⟩ := run_append_own_at (P := Try.prog) w base 22 ty 9 i0 _ 1 16 Try.underlying22 hi hz0 hz1 hz2 rfl (by omega) v _ _ hraw ad n c _ hpl hcell h1 (by unfold maxLen; omega) (by omega) hbase
    refine ⟨v', w', hr, OwnsS.cat ?_, h3⟩
    rw [hlen]
    exact h2
  by_cases h0 : n = 0
  · subst h0
    obtain rfl : ps = [] := List.eq_nil_of_length_eq_zero hlen
    cases ao with
    | none => exact ⟨v, w, run_append_nilsrc w _ _ _ i0 base 1 Try.underlying22 hi v _ _ hraw c, by rw [List.append_nil]; exact hown, ⟨rfl, rfl, rfl, Nat.le_refl _, fun _ _ _ => rfl⟩⟩
    | some ad => exact big ad rfl (fun j u hu => by simp at hu)
  · obtain ⟨rfl, hlt, _⟩ := hc 0 (by omega)
    refine big _ rfl ?_
    intro j u hu
    have hj : j < ps.length := by
      have h1 := (List.getElem?_eq_some_iff.1 hu).1
      simpa using h1
    have hadd : (⟨b, off, none⟩ : Addr).add j = ⟨b, off + j, none⟩ := by unfold Addr.add; split <;> simp_all
    rw [hadd]
    obtain ⟨_, _, p0⟩ := hc j (by omega)
    rw [p0]
    simp [hj] at hu ⊢
    exact hu

theorem wpList_append_seesS {w : World} {ops : Array Oper} {rest : List Oper} {o : Oper} {a : Act} {Q : Exit → Act → World → Prop} (hgd : o.guard = none) (s x : Operand)
    (ho : o.op = .call { callee := .builtin .append, args := #[s, x], argTypes := #[22, 22] })
    (base : Nat) (v : Value) (qs : List ByteArray) (hs : a.eval s = v) (hown : OwnsS w base v qs) (ao : Option Addr) (n c : Nat) (ps : List ByteArray) (hx : a.eval x = .slice ao n c) (hsee : SeesS w (.slice ao n c) ps)
    (hl : qs.length + n ≤ 1000000000) (hbase : base ≤ w.heap.size)
    (h : ∀ v' w', OwnsS w' base v' (qs ++ ps) → w.grownBy w' v.ownBlock → wpList Try.prog ops Q rest (a.put o.dst v') w') : wpList Try.prog ops Q (o :: rest) a w := by
  refine wpList_plain hgd fun K hK => ?_
  obtain ⟨v', w', hr, h2, h3⟩ := run_append_seesS w o.type base v qs hown ao n c ps hsee hl hbase
  unfold Oper.wp execOp
  simp only [ho, resolve, invoke, builtin, Sem.run_bind, Sem.run_pure, Result.andThen_ok, List.map_toArray, List.map_cons, List.map_nil, hs, hx, hr]
  exact hK _ _ (h v' w' h2 h3)

/-- The same at an operation that is guarded, whose guard says yes. -/
theorem wpList_append_seesS_want {w : World} {ops : Array Oper} {rest : List Oper} {o : Oper} {a : Act} {Q : Exit → Act → World → Prop} (hw : Region.wanted o (yielded ops a.tmps) = true) (s x : Operand)
    (ho : o.op = .call { callee := .builtin .append, args := #[s, x], argTypes := #[22, 22] })
    (base : Nat) (v : Value) (qs : List ByteArray) (hs : a.eval s = v) (hown : OwnsS w base v qs) (ao : Option Addr) (n c : Nat) (ps : List ByteArray) (hx : a.eval x = .slice ao n c) (hsee : SeesS w (.slice ao n c) ps)
    (hl : qs.length + n ≤ 1000000000) (hbase : base ≤ w.heap.size)
    (h : ∀ v' w', OwnsS w' base v' (qs ++ ps) → w.grownBy w' v.ownBlock → wpList Try.prog ops Q rest (a.put o.dst v') w') : wpList Try.prog ops Q (o :: rest) a w := by
  refine BigFrame.wpList_want hw fun K hK => ?_
  obtain ⟨v', w', hr, h2, h3⟩ := run_append_seesS w o.type base v qs hown ao n c ps hsee hl hbase
  unfold Oper.wp execOp
  simp only [ho, resolve, invoke, builtin, Sem.run_bind, Sem.run_pure, Result.andThen_ok, List.map_toArray, List.map_cons, List.map_nil, hs, hx, hr]
  exact hK _ _ (h v' w' h2 h3)

theorem ownsS_empty (w : World) : OwnsS (w.alloc (.cells #[] 9)) w.heap.size (.slice (some ⟨w.heap.size, 0, none⟩) 0 0) [] :=
  ⟨rfl, Or.inr ⟨w.heap.size, 0, #[], rfl, Nat.le_refl _, heap_alloc_new w _, Nat.le_refl _, by unfold maxLen; omega, rfl, rfl⟩⟩

end Go.Proofs.Ytnlfajikciijjaa
