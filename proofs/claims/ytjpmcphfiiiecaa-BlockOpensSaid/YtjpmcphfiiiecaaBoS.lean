/- The walk of the document's Add of layer 11. -/
import Derived.Test.YtjpmcphfiiiecaaBoR
import Derived.Laws.AppendOwnNone
namespace Go.Proofs.Ytjpmcphfiiiecaa.Bo
open Go Go.RowKit
set_option linter.unusedVariables false

theorem flat_at : ∀ (l : List En) (j : Nat) (u : Value), (l.flatMap cellsN)[j]? = some u → ∃ i x, l[i]? = some x ∧ ((j = i * 2 ∧ u = .string x.key) ∨ (j = i * 2 + 1 ∧ u = .string x.val))
  | [], j, u, h => by simp at h
  | x :: l, 0, u, h => by
    simp [cellsN] at h
    exact ⟨0, x, rfl, Or.inl ⟨rfl, h.symm⟩⟩
  | x :: l, 1, u, h => by
    simp [cellsN] at h
    exact ⟨0, x, rfl, Or.inr ⟨rfl, h.symm⟩⟩
  | x :: l, j + 2, u, h => by
    have h2 : (l.flatMap cellsN)[j]? = some u := by
      rw [List.flatMap_cons, List.getElem?_append_right (by simp [cellsN])] at h
      simpa [cellsN] using h
    obtain ⟨i, y, h3, h4⟩ := flat_at l j u h2
    refine ⟨i + 1, y, by simpa using h3, ?_⟩
    rcases h4 with ⟨e1, e2⟩ | ⟨e1, e2⟩
    · exact Or.inl ⟨by omega, e2⟩
    · exact Or.inr ⟨by omega, e2⟩
/-- 'append(own, row...)', the row nil or not. -/
theorem wpList_append_ents {W : World} {ops : Array Oper} {rest : List Oper} {o : Oper} {a : Act} {Q : Exit → Act → World → Prop} (hgd : o.guard = none) (s x : Operand) (ho : o.op = .call { callee := .builtin .append, args := #[s, x], argTypes := #[39, 39] })
    {b0 base m cap : Nat} {ao : Option Addr} {r : List En} (v : Value) (hs : a.eval s = v) (hown : W.ownsRow base 51 2 v 0 []) (hbase : base ≤ W.heap.size) (hx : a.eval x = .slice ao m cap) (h : OwnsN W b0 (.slice ao m cap) r) (hl : r.length ≤ 1000000)
    (hq : ∀ v' W', OwnsN W' base v' r → W.grownBy W' v.ownBlock → wpList Try.prog ops Q rest (a.put o.dst v') W') : wpList Try.prog ops Q (o :: rest) a W := by
  obtain ⟨i0, hi, hz0, hz1, hz2⟩ := info_parts info_ent
  have hsee := h.sees
  rcases h.2 with ⟨e1, e2⟩ | ⟨g, cap', cur, e1, hb, hg, _⟩
  · simp only [Value.slice.injEq] at e1
    obtain ⟨rfl, rfl, rfl⟩ := e1
    obtain rfl : r = [] := List.length_eq_zero_iff.1 e2
    exact wpList_append_own_none hgd s x _ ho base 51 i0 2 Try.underlying39 hi v 0 [] hs hown hx (hq v W hown ⟨rfl, rfl, rfl, Nat.le_refl _, fun _ _ _ => rfl⟩)
  · simp only [Value.slice.injEq] at e1
    obtain ⟨rfl, rfl, rfl⟩ := e1
    refine wpList_append_own W hgd s x _ ho base 51 i0 _ 2 32 Try.underlying39 hi hz0 hz1 hz2 rfl (by decide) v 0 [] hs hown ⟨g, 0, none⟩ r.length cap (r.flatMap cellsN) hx h.1 (fun j u hu => ?_) (fun u hu => ?_) (by unfold maxLen; omega) (by omega) hbase (fun v' W' h1 h2 _ => hq v' W' ?_ h2)
    · obtain ⟨i, y, hi2, h4⟩ := flat_at r j u hu
      obtain ⟨g2, e, _, c0, c1⟩ := hsee i y hi2
      simp only [Option.some.injEq, Addr.mk.injEq, and_true] at e
      subst e
      rw [add_none]
      rcases h4 with ⟨rfl, rfl⟩ | ⟨rfl, rfl⟩
      · exact c0
      · exact c1
    · obtain ⟨y, _, hy⟩ := List.mem_flatMap.1 hu
      simp [cellsN] at hy
      rcases hy with rfl | rfl <;> rfl
    · rw [Nat.zero_add, List.nil_append] at h1
      exact h1

theorem run_last_snoc (l : List En) (x : En) : (run st0 (l ++ [x])).last = x.key := by rw [run_snoc]; rfl
theorem run_len (l : List En) : (run st0 l).n = l.length := by rw [run_n]; show 0 + _ = _; omega
/-- The key that was added last. -/
theorem run_last {l : List En} {k : Nat} {x : En} (hk : l.length = k + 1) (hx : l[k]? = some x) : (run st0 l).last = x.key := by
  have h1 : l = l.take k ++ [x] := by
    obtain ⟨hlt, e⟩ := List.getElem?_eq_some_iff.1 hx
    have := List.take_succ_eq_append_getElem hlt
    rw [e] at this
    rw [← this, List.take_of_length_le (by omega)]
  rw [h1, run_last_snoc]

section
variable {w : World} {b0 : Nat} {a : Option Addr} {n c : Nat} {l : List En}
theorem refAdd_long (hl : l.length = n) (k v : ByteArray) (h : 1024 < k.size ∨ 1024 < v.size) :
    Calls Try.prog 19 #[.slice a n c, .string k, .string v] w fun e w' => e = .returned (.tuple #[.slice a n c, .int .i64 3]) ∧ w = w' := by
  by_cases hk : (1024 : Int) < k.size
  · go_enter Try.func19, Try.ntmps19
    go_wp2_with fail
    go_ret2
    exact ⟨rfl, rfl⟩
  · have hv : (1024 : Int) < v.size := by omega
    go_enter Try.func19, Try.ntmps19
    go_wp2_with fail
    go_ret2
    exact ⟨rfl, rfl⟩
theorem refAdd_low (hs : SeesN w a l) (hl : l.length = n) (hn : n ≤ 1000000) (k v : ByteArray) (hk : ¬ (1024 : Int) < k.size) (hv : ¬ (1024 : Int) < v.size) (h0 : (run st0 l).n ≠ 0) (hlt : Op.bytesLess (run st0 l).last.data.toList k.data.toList = false) :
    Calls Try.prog 19 #[.slice a n c, .string k, .string v] w fun e w' => e = .returned (.tuple #[.slice a n c, .int .i64 1]) ∧ w = w' := by
  rw [run_len] at h0
  obtain ⟨m, hm⟩ : ∃ m, n = m + 1 := ⟨n - 1, by omega⟩
  obtain ⟨x, hx⟩ : ∃ x, l[m]? = some x := ⟨_, List.getElem?_eq_getElem (by omega)⟩
  rw [run_last (by omega) hx] at hlt
  obtain ⟨g, rfl, hg, c0, -⟩ := hs m x hx
  have hlt1 : Op.bytesLess x.key.toList k.toList = false := by rw [ByteArray.toList_eq, ByteArray.toList_eq]; exact hlt
  obtain ⟨xk, xv⟩ := x
  dsimp only at *
  subst hm
  have hn0 : (0 : Int) < (m : Int) + 1 := by omega
  have hm1 : (m : Int) + 1 - 1 = m := by omega
  have hw1 : IntKind.i64.wrap (m : Int) = m := by rw [IntKind.wrap_i64]; omega
  have hm0 : (0 : Int) ≤ m := by omega
  have hm2 : (m : Int) < (m : Int) + 1 := by omega
  clear hlt hx hs hl h0
  go_enter Try.func19, Try.ntmps19
  go_wp2_with fail
  go_ret2
  exact ⟨rfl, rfl⟩
set_option maxHeartbeats 2000000 in
theorem refAdd_ok (hs : OwnsN w b0 (.slice a n c) l) (hl : l.length = n) (hn : n ≤ 1000000) (k v : ByteArray) (he : err (run st0 l) ⟨k, v⟩ = 0) :
    Calls Try.prog 19 #[.slice a n c, .string k, .string v] w fun e w' => Below w.heap.size w w' ∧ ∃ a' c', e = .returned (.tuple #[.slice a' (n + 1) c', .int .i64 0]) ∧ OwnsN w' w.heap.size (.slice a' (n + 1) c') (l ++ [⟨k, v⟩]) := by
  obtain ⟨i0, hi, hz0, hz1, hz2⟩ := info_parts info_ent
  obtain ⟨hk, hv⟩ := err_size he
  dsimp only at hk hv
  have hk1 : ¬ (1024 : Int) < k.size := by omega
  have hv1 : ¬ (1024 : Int) < v.size := by omega
  have hless := err_less he
  rw [run_len] at hless
  have HS := Lib.hid hs; have HL := Lib.hid hl
  by_cases h0 : n = 0
  · have hn0 : ¬ (0 : Int) < n := by omega
    clear hs hl he hk hv hless h0
    go_enter Try.func19, Try.ntmps19
    go_wp2_with (at_builtin; go_must (refine wpList_append_ents rfl _ _ rfl (base := w.heap.size) _ rfl (World.ownsRow_made w #[] 0 (Nat.le_refl _) (Nat.zero_le _) rfl) (by rw [World.size_alloc]; exact Nat.le_succ _) rfl (HS.out.below ((Below.refl _ _).alloc (Nat.le_refl _) _)) ?c2 ?_))
    case c2 => have := HL.out; omega
    intro v1 w1 h1 hg1
    have B1 := Lib.hid (((Below.refl w.heap.size w).alloc (Nat.le_refl _) _).grown hg1 (by simp) (fun q hq => by simp [Value.ownBlock] at hq; omega))
    obtain ⟨a1, cap1, e1⟩ := h1.shape
    rw [HL.out] at e1
    subst e1
    have hraw : w1.ownsRow w.heap.size 51 2 (.slice a1 n cap1) n (l.flatMap cellsN) := by
      have := h1
      unfold OwnsN at this
      rw [HL.out] at this
      exact this
    have hsz := B1.out.size
    clear h1 hg1
    go_wp2_with (at_builtin; go_must (refine wpList_append_own _ rfl _ _ 39 rfl w.heap.size 51 i0 _ 2 32 Try.underlying39 hi hz0 hz1 hz2 rfl (by decide) _ _ _ rfl (hraw.alloc _) ⟨w1.heap.size, 0, none⟩ 1 1 [_, _] rfl rfl (World.news_of_block (cs := #[_, _]) (fr := (0, 0)) (heap_alloc_new w1 _)) ?d2 ?d3 ?d4 ?d5 ?_))
    case d2 => intro u hu; simp at hu; rcases hu with hu | hu <;> subst hu <;> rfl
    case d3 => unfold maxLen; omega
    case d4 => omega
    case d5 => simp; omega
    intro v2 w2 hown2 hgrow2 _
    have B2 := Lib.hid ((B1.out.alloc hsz _).grown hgrow2 (by simp; omega) (fun q hq => (hraw.lt q hq).1))
    have O2 : Hid (OwnsN w2 w.heap.size v2 (l ++ [⟨k, v⟩])) := Lib.hid (OwnsN.snoc (by rw [HL.out]; exact hown2))
    clear hown2 hgrow2 hraw
    obtain ⟨a2, cap2, e2⟩ := O2.out.shape
    rw [List.length_append, HL.out] at e2
    subst e2
    go_wp2_with fail
    go_ret2
    exact ⟨B2.out, a2, cap2, rfl, O2.out⟩
  · obtain ⟨m, hm⟩ : ∃ m, n = m + 1 := ⟨n - 1, by omega⟩
    obtain ⟨x, hx⟩ : ∃ x, l[m]? = some x := ⟨_, List.getElem?_eq_getElem (by omega)⟩
    have hl2 := hless.resolve_left (by omega)
    rw [run_last (by omega) hx] at hl2
    obtain ⟨g, rfl, hg, c0, -⟩ := hs.sees m x hx
    have hlt1 : Op.bytesLess x.key.toList k.toList = true := by rw [ByteArray.toList_eq, ByteArray.toList_eq]; exact hl2
    obtain ⟨xk, xv⟩ := x
    dsimp only at *
    have hn0 : (0 : Int) < n := by omega
    have hm1 : (n : Int) - 1 = m := by omega
    have hw1 : IntKind.i64.wrap (m : Int) = m := by rw [IntKind.wrap_i64]; omega
    have hm0 : (0 : Int) ≤ m := by omega
    have hm2 : (m : Int) < n := by omega
    clear hs hl he hk hv hless h0 hx hl2 hm
    go_enter Try.func19, Try.ntmps19
    go_wp2_with (at_builtin; go_must (refine wpList_append_ents rfl _ _ rfl (base := w.heap.size) _ rfl (World.ownsRow_made w #[] 0 (Nat.le_refl _) (Nat.zero_le _) rfl) (by rw [World.size_alloc]; exact Nat.le_succ _) rfl (HS.out.below ((Below.refl _ _).alloc (Nat.le_refl _) _)) ?c2b ?_))
    case c2b => have := HL.out; omega
    intro v1 w1 h1 hg1
    have B1 := Lib.hid (((Below.refl w.heap.size w).alloc (Nat.le_refl _) _).grown hg1 (by simp) (fun q hq => by simp [Value.ownBlock] at hq; omega))
    obtain ⟨a1, cap1, e1⟩ := h1.shape
    rw [HL.out] at e1
    subst e1
    have hraw : w1.ownsRow w.heap.size 51 2 (.slice a1 n cap1) n (l.flatMap cellsN) := by
      have := h1
      unfold OwnsN at this
      rw [HL.out] at this
      exact this
    have hsz := B1.out.size
    clear h1 hg1
    go_wp2_with (at_builtin; go_must (refine wpList_append_own _ rfl _ _ 39 rfl w.heap.size 51 i0 _ 2 32 Try.underlying39 hi hz0 hz1 hz2 rfl (by decide) _ _ _ rfl (hraw.alloc _) ⟨w1.heap.size, 0, none⟩ 1 1 [_, _] rfl rfl (World.news_of_block (cs := #[_, _]) (fr := (0, 0)) (heap_alloc_new w1 _)) ?d2b ?d3b ?d4b ?d5b ?_))
    case d2b => intro u hu; simp at hu; rcases hu with hu | hu <;> subst hu <;> rfl
    case d3b => unfold maxLen; omega
    case d4b => omega
    case d5b => simp; omega
    intro v2 w2 hown2 hgrow2 _
    have B2 := Lib.hid ((B1.out.alloc hsz _).grown hgrow2 (by simp; omega) (fun q hq => (hraw.lt q hq).1))
    have O2 : Hid (OwnsN w2 w.heap.size v2 (l ++ [⟨k, v⟩])) := Lib.hid (OwnsN.snoc (by rw [HL.out]; exact hown2))
    clear hown2 hgrow2 hraw
    obtain ⟨a2, cap2, e2⟩ := O2.out.shape
    rw [List.length_append, HL.out] at e2
    subst e2
    go_wp2_with fail
    go_ret2
    exact ⟨B2.out, a2, cap2, rfl, O2.out⟩
end
end Go.Proofs.Ytjpmcphfiiiecaa.Bo
