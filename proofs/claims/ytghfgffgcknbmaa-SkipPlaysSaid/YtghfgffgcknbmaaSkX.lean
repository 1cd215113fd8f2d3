/- The document's Set, over rows that lie in memory. -/
import Derived.Test.YtghfgffgcknbmaaSkW
import Derived.Laws.AppendOwnNone
namespace Go.Proofs.Ytghfgffgcknbmaa.Sk
open Go Go.RowKit
set_option linter.unusedVariables false

/-- A row of the call's own, grown by a row that lies in memory. -/
theorem wpList_append_items {W : World} {ops : Array Oper} {rest : List Oper} {o : Oper} {a : Act} {Q : Exit → Act → World → Prop} (hgd : o.guard = none) (s x : Operand) (ho : o.op = .call { callee := .builtin .append, args := #[s, x], argTypes := #[31, 31] })
    {b0 base m cap : Nat} {ao : Option Addr} {r : List (It ByteArray)} (v : Value) (hs : a.eval s = v) (hown : W.ownsRow base 45 3 v 0 []) (hbase : base ≤ W.heap.size) (hx : a.eval x = .slice ao m cap) (h : Items b0 W (.slice ao m cap) r) (hl : r.length ≤ 100000)
    (hq : ∀ v' W', Items base W' v' r → W.grownBy W' v.ownBlock → wpList Try.prog ops Q rest (a.put o.dst v') W') : wpList Try.prog ops Q (o :: rest) a W := by
  obtain ⟨i0, hi, hz0, hz1, hz2⟩ := info_parts info_itm
  have hh := row_here h
  rcases h.2 with ⟨e1, e2⟩ | ⟨g, cap', cur, e1, hb, hg, _⟩
  · simp only [Value.slice.injEq] at e1
    obtain ⟨rfl, rfl, rfl⟩ := e1
    obtain rfl : r = [] := List.length_eq_zero_iff.1 e2
    exact wpList_append_own_none hgd s x _ ho base 45 i0 3 Try.underlying31 hi v 0 [] hs hown hx (hq v W hown ⟨rfl, rfl, rfl, Nat.le_refl _, fun _ _ _ => rfl⟩)
  · simp only [Value.slice.injEq] at e1
    obtain ⟨rfl, rfl, rfl⟩ := e1
    refine wpList_append_own W hgd s x _ ho base 45 i0 _ 3 40 Try.underlying31 hi hz0 hz1 hz2 rfl (by decide) v 0 [] hs hown ⟨g, 0, none⟩ r.length cap (r.flatMap itCells) hx h.1 (fun j u hu => ?_) (fun u hu => ?_) (by unfold maxLen; omega) (by omega) hbase fun v' w' h1 h2 _ => hq v' w' ?_ h2
    · obtain ⟨g2, e, _, _, c⟩ := hh.2 j u hu
      obtain rfl : g = g2 := by simpa using e
      rw [add_none]; exact c
    · obtain ⟨y, _, hy⟩ := List.mem_flatMap.1 hu
      simp [itCells] at hy
      rcases hy with rfl | rfl | rfl <;> rfl
    · rw [Nat.zero_add, List.nil_append] at h1
      exact h1
theorem items_set {base : Nat} {W : World} {g n cap k : Nat} {r : List (It ByteArray)} {x y : It ByteArray} (h : Items base W (.slice (some ⟨g, 0, none⟩) n cap) r) (hy : r[k]? = some y) (hk : y.key = x.key) (hC : ∀ z ∈ r.take k, z.key ≠ x.key) :
    Items base (W.setCell ⟨g, k * 3 + 1, none⟩ (.string x.val)) (.slice (some ⟨g, 0, none⟩) n cap) (rput x r) := by
  obtain ⟨hl, he⟩ := List.getElem?_eq_some_iff.1 hy
  have hr : r = r.take k ++ y :: r.drop (k + 1) := by rw [← he, List.getElem_cons_drop, List.take_append_drop]
  have hCl : (r.take k).length = k := by rw [List.length_take]; omega
  have e2 : rput x r = r.take k ++ ⟨x.key, x.val, y.h⟩ :: r.drop (k + 1) := by
    have := rput_old (D := r.drop (k + 1)) hC hk
    rwa [← hr] at this
  have := ownsRow_set h (g := g) rfl (k * 3 + 1) (.string x.val)
  have hf := flat_set (y := y) (y' := ⟨x.key, x.val, y.h⟩) (f := itCells) (c := 1) (u := .string x.val) itCells_length (by omega) (by unfold itCells; rw [hk]; rfl) (r.take k) (r.drop (k + 1))
  rw [← hr, hCl, ← e2] at hf
  rw [hf] at this
  have hlen : (rput x r).length = r.length := by rw [e2]; conv => rhs; rw [hr]
                                                 simp
  unfold Items
  rw [hlen]
  exact this

set_option maxHeartbeats 4000000 in
set_option maxRecDepth 100000 in
theorem refSet_any {base : Nat} {w : World} {ao : Option Addr} {m cap : Nat} {r : List (It ByteArray)} (h : Items base w (.slice ao m cap) r) (K V : ByteArray) (H : Int) (hm : r.length < 100000) :
    Calls Try.prog 12 #[.slice ao m cap, .string K, .string V, .int .i64 H] w fun e w' => ∃ v, e = .returned (.tuple #[v, .bool (find K.data.toList r).isNone]) ∧ Items w.heap.size w' v (rput ⟨K.data.toList, V, clampH H⟩ r) ∧ Below w.heap.size w w' := by
  obtain ⟨i0, hi, hz0, hz1, hz2⟩ := info_parts info_itm
  obtain rfl : m = r.length := (row_here h).1
  have HI := Lib.hid h
  have hmi : (r.length : Int) < 100000 := by omega
  clear h
  go_enter Try.func12, Try.ntmps12
  go_wp2_with (at_builtin; go_must (refine wpList_append_items rfl _ _ rfl (base := w.heap.size) _ rfl (World.ownsRow_made w #[] 0 (Nat.le_refl _) (Nat.zero_le _) rfl) ?c1 rfl (HI.out.below ((Below.refl _ _).alloc (Nat.le_refl _) _)) ?c2 ?_))
  case c1 => simp
  case c2 => omega
  intro v1 w1 h1 hg1
  have B1 := Lib.hid (((Below.refl w.heap.size w).alloc (Nat.le_refl _) _).grown hg1 (by simp) (fun q hq => by simp [Value.ownBlock] at hq; omega))
  have H1 := Lib.hid h1
  obtain ⟨a1, cap1, e1⟩ := row_any h1
  subst e1
  clear h1 hg1
  go_wp2_with fail
  go_loopw [11] (fun i wr => ∃ (k : Nat), k ≤ r.length ∧ i = .int .i64 (k : Int) ∧ Hid (∀ z ∈ r.take k, z.key ≠ K.data.toList) ∧ wr = w1) (fun i _ => r.length - (intOf i).toNat)
  case atStart => exact ⟨0, Nat.zero_le _, rfl, Lib.hid (by simp), rfl⟩
  case round =>
    obtain ⟨k, hk, rfl, HF, rfl⟩ := hrel
    by_cases hkr : k < r.length
    · obtain ⟨y, hy⟩ : ∃ y, r[k]? = some y := ⟨r[k], List.getElem?_eq_getElem _⟩
      have hki : (k : Int) < r.length := by omega
      obtain ⟨g, rfl, hg, c0, c1, c2⟩ := H1.out.get hy
      have HY := Lib.hid hy
      clear hy
      by_cases hkey : y.key = K.data.toList
      · have HN : Hid (find K.data.toList r = some y) := Lib.hid (by
          have hd := find_drop (K := K.data.toList) HY.out
          rw [if_pos hkey] at hd
          conv => lhs; rw [← List.take_append_drop k r]
          unfold Sk.find at hd ⊢
          rw [List.find?_append, List.find?_eq_none.2 (by intro z hz; simpa using HF.out z hz), Option.none_or]
          exact hd)
        have HS := Lib.hid (items_set (x := ⟨K.data.toList, V, clampH H⟩) H1.out HY.out hkey HF.out)
        have hfr : wr.frozen? ⟨g, k * 3 + 1, none⟩ = false := by
          obtain ⟨cs, e⟩ := ownsRow_obj H1.out (b := g) rfl
          exact unfrozen_of e _
        have hgb : w.heap.size ≤ g := by
          obtain ⟨g', e', hb', _⟩ := (row_here H1.out).2 (k * 3 + 1) (.string y.val) (by rw [flat_get itCells_length r k 1 y HY.out (by omega)]; rfl)
          simp at e'
          rw [e']; exact hb'
        rw [txt_of hkey] at c0
        clear hkey
        go_wp2_with fail
        rw [HN.out]
        refine bodyPost_ret (v := .tuple #[.slice (some ⟨g, 0, none⟩) r.length cap1, .bool false]) ?_ rfl ⟨_, rfl, HS.out, B1.out.setCell hgb _⟩
        simp [results, Try.results12]
      · have HN : Hid (∀ z ∈ r.take (k + 1), z.key ≠ K.data.toList) := Lib.hid (fun z hz => by
          rw [List.take_add_one, HY.out] at hz
          rcases List.mem_append.1 hz with h1 | h1
          · exact HF.out z h1
          · simp at h1
            subst h1
            exact hkey)
        have hne : ((txt y.key).toList == K.toList) = false := by
          rw [txt_list, ByteArray.toList_eq]
          exact beq_false_of_ne fun e => hkey e
        clear hkey
        go_wp2_with fail
        go_roundw
        case rel => exact ⟨k + 1, by omega, by go_num, HN, trivial⟩
        case measure => simp [intOf]; omega
    · obtain rfl : k = r.length := by omega
      rw [List.take_length] at HF
      have HN : Hid (find K.data.toList r = none) := Lib.hid (find_none.2 HF.out)
      have HR : Hid (rput ⟨K.data.toList, V, clampH H⟩ r = r ++ [⟨K.data.toList, V, clampH H⟩]) := Lib.hid (rput_new HF.out)
      have HC := Lib.hid (clamp_eq H)
      have hraw : wr.ownsRow w.heap.size 45 3 (.slice a1 r.length cap1) r.length (r.flatMap itCells) := H1.out
      clear HF hkr
      by_cases hH1 : H < 1
      · have HH : Hid (((clampH H : Nat) : Int) = 1) := Lib.hid (by rw [HC.out]; omega)
        go_wp2_with (at_builtin; go_must (refine wpList_append_own _ rfl _ _ 31 rfl w.heap.size 45 i0 _ 3 40 Try.underlying31 hi hz0 hz1 hz2 rfl (by decide) _ _ _ rfl (hraw.alloc _) ⟨wr.heap.size, 0, none⟩ 1 1 [_, _, _] rfl rfl (World.news_of_block (cs := #[_, _, _]) (fr := (0, 0)) (heap_alloc_new wr _)) ?c2 ?c3 ?c4 ?c5 ?_))
        case c2 => first | exact ⟨rfl, rfl, rfl⟩ | (intro u hu; simp at hu; rcases hu with rfl | rfl | rfl <;> rfl)
        case c3 => unfold maxLen; omega
        case c4 => omega
        case c5 => have := B1.out.size; simp; omega
        intro v2 w3 hown2 hgrow2 _
        have HW : Hid (Items w.heap.size w3 v2 (r ++ [⟨K.data.toList, V, clampH H⟩]) ∧ Below w.heap.size w w3) :=
          Lib.hid ⟨items_snoc (by rw [HH.out, show txt (⟨K.data.toList, V, clampH H⟩ : It ByteArray).key = K from txt_key K]; exact hown2), (B1.out.alloc B1.out.size _).grown hgrow2 (by have := B1.out.size; simp; omega) (fun q hq => (hraw.lt q hq).1)⟩
        clear hown2 hgrow2 hraw
        go_wp2_with fail
        rw [HN.out, HR.out]
        refine bodyPost_ret (v := .tuple #[v2, .bool true]) ?_ rfl ⟨_, rfl, HW.out.1, HW.out.2⟩
        simp [results, Try.results12]
      · by_cases hH2 : 12 < H
        · have HH : Hid (((clampH H : Nat) : Int) = 12) := Lib.hid (by rw [HC.out]; omega)
          go_wp2_with (at_builtin; go_must (refine wpList_append_own _ rfl _ _ 31 rfl w.heap.size 45 i0 _ 3 40 Try.underlying31 hi hz0 hz1 hz2 rfl (by decide) _ _ _ rfl (hraw.alloc _) ⟨wr.heap.size, 0, none⟩ 1 1 [_, _, _] rfl rfl (World.news_of_block (cs := #[_, _, _]) (fr := (0, 0)) (heap_alloc_new wr _)) ?c2 ?c3 ?c4 ?c5 ?_))
          case c2 => first | exact ⟨rfl, rfl, rfl⟩ | (intro u hu; simp at hu; rcases hu with rfl | rfl | rfl <;> rfl)
          case c3 => unfold maxLen; omega
          case c4 => omega
          case c5 => have := B1.out.size; simp; omega
          intro v2 w3 hown2 hgrow2 _
          have HW : Hid (Items w.heap.size w3 v2 (r ++ [⟨K.data.toList, V, clampH H⟩]) ∧ Below w.heap.size w w3) :=
            Lib.hid ⟨items_snoc (by rw [HH.out, show txt (⟨K.data.toList, V, clampH H⟩ : It ByteArray).key = K from txt_key K]; exact hown2), (B1.out.alloc B1.out.size _).grown hgrow2 (by have := B1.out.size; simp; omega) (fun q hq => (hraw.lt q hq).1)⟩
          clear hown2 hgrow2 hraw
          go_wp2_with fail
          rw [HN.out, HR.out]
          refine bodyPost_ret (v := .tuple #[v2, .bool true]) ?_ rfl ⟨_, rfl, HW.out.1, HW.out.2⟩
          simp [results, Try.results12]
        · have HH : Hid (((clampH H : Nat) : Int) = H) := Lib.hid (by rw [HC.out]; omega)
          go_wp2_with (at_builtin; go_must (refine wpList_append_own _ rfl _ _ 31 rfl w.heap.size 45 i0 _ 3 40 Try.underlying31 hi hz0 hz1 hz2 rfl (by decide) _ _ _ rfl (hraw.alloc _) ⟨wr.heap.size, 0, none⟩ 1 1 [_, _, _] rfl rfl (World.news_of_block (cs := #[_, _, _]) (fr := (0, 0)) (heap_alloc_new wr _)) ?c2 ?c3 ?c4 ?c5 ?_))
          case c2 => first | exact ⟨rfl, rfl, rfl⟩ | (intro u hu; simp at hu; rcases hu with rfl | rfl | rfl <;> rfl)
          case c3 => unfold maxLen; omega
          case c4 => omega
          case c5 => have := B1.out.size; simp; omega
          intro v2 w3 hown2 hgrow2 _
          have HW : Hid (Items w.heap.size w3 v2 (r ++ [⟨K.data.toList, V, clampH H⟩]) ∧ Below w.heap.size w w3) :=
            Lib.hid ⟨items_snoc (by rw [HH.out, show txt (⟨K.data.toList, V, clampH H⟩ : It ByteArray).key = K from txt_key K]; exact hown2), (B1.out.alloc B1.out.size _).grown hgrow2 (by have := B1.out.size; simp; omega) (fun q hq => (hraw.lt q hq).1)⟩
          clear hown2 hgrow2 hraw
          go_wp2_with fail
          rw [HN.out, HR.out]
          refine bodyPost_ret (v := .tuple #[v2, .bool true]) ?_ rfl ⟨_, rfl, HW.out.1, HW.out.2⟩
          simp [results, Try.results12]

end Go.Proofs.Ytghfgffgcknbmaa.Sk
