/- OkeyOrder, of any lists. -/
import Derived.Test.YtognddehcfjiaaaOkeyL
namespace Go.Proofs.Ytognddehcfjiaaa
open Go.RowKit
set_option linter.unusedVariables false

theorem bytes_of (l : List UInt8) : ∃ S : ByteArray, l = S.data.toList := ⟨⟨l.toArray⟩, by simp⟩

theorem order_walk (a0 : Option Addr) (n0 c0 : Nat) (l0 : List Pt) (a1 : Option Addr) (n1 c1 : Nat) (l1 : List Pt) (w : World)
    (s0 : SeesP w (.slice a0 n0 c0) l0) (_e0 : l0.length = n0) (b0 : ∀ i, (l0.getD i pd).n < 18446744073709551616) (s1 : SeesP w (.slice a1 n1 c1) l1) (_e1 : l1.length = n1) (b1 : ∀ i, (l1.getD i pd).n < 18446744073709551616) :
    Calls Try.prog 6 #[.slice a0 n0 c0, .slice a1 n1 c1] w (Gives (.bool true) w) := by
  by_cases h : greatP l0 = true ∨ greatP l1 = true
  · exact order_great a0 a1 n0 c0 n1 c1 l0 l1 w s0 s1 h
  · have g0 : greatP l0 = false := Bool.not_eq_true _ ▸ fun e => h (Or.inl e)
    have g1 : greatP l1 = false := Bool.not_eq_true _ ▸ fun e => h (Or.inr e)
    have o0 := OkN.of b0
    have o1 := OkN.of b1
    obtain ⟨S, hS⟩ := bytes_of (keyl l0)
    obtain ⟨T, hT⟩ := bytes_of (keyl l1)
    have hS' : S.toList = keyl l0 := by rw [ByteArray.toList_eq, hS]
    have hT' : T.toList = keyl l1 := by rw [ByteArray.toList_eq, hT]
    have ho := key_order l0 l1 o0 o1
    have hk := key_begins l0 l1 o0 o1
    obtain ⟨F, hF⟩ : ∃ F : Bool, F = decide (keyl l0 <+: keyl l1) := ⟨_, rfl⟩
    refine order_main a0 a1 n0 c0 n1 c1 l0 l1 S T (cmpL l0 l1) F w s0 s1 g0 g1 b0 b1 hS hT rfl ho.2 ?_ ?_ ?_
    · rw [hS', hT']
      rcases tri l0 l1 o0 o1 with ⟨t, h1, h2⟩ | ⟨t, h1, h2⟩ | ⟨t, h1, h2⟩ | ⟨t, r, hh, h1, h2⟩ | ⟨t, r, hh, h1, h2⟩
      · have e : keyl l0 = keyl l1 := by rw [← keyl_plain l0, ← keyl_plain l1, t]
        exact Or.inr (Or.inr ⟨by rw [e]; simp, by rw [e, Nm.bytesLess_self], h1⟩)
      · have hb := bytesLess_of_parts t
        refine Or.inl ⟨?_, hb.1, h1⟩
        rw [beq_eq_false_iff_ne]; intro e
        exact (parts_not_pre t).1 (by rw [e]; exact List.prefix_refl _)
      · have hb := bytesLess_of_parts t
        refine Or.inr (Or.inl ⟨?_, hb.2, h1⟩)
        rw [beq_eq_false_iff_ne]; intro e
        exact (parts_not_pre t).1 (by rw [e]; exact List.prefix_refl _)
      · obtain ⟨c, u, hc, _⟩ := ptl_head (plainP t)
        have e : keyl l1 = keyl l0 ++ c :: (u ++ keyl (r.map plainP)) := by rw [← keyl_plain l1, hh, keyl_append, keyl_plain l0, List.map_cons, keyl_cons, hc]; rfl
        refine Or.inl ⟨?_, by rw [e]; exact (bytesLess_more _ _ _).1, h1⟩
        rw [beq_eq_false_iff_ne]; intro e2
        have := congrArg List.length e2
        rw [e, List.length_append, List.length_cons] at this
        omega
      · obtain ⟨c, u, hc, _⟩ := ptl_head (plainP t)
        have e : keyl l0 = keyl l1 ++ c :: (u ++ keyl (r.map plainP)) := by rw [← keyl_plain l0, hh, keyl_append, keyl_plain l1, List.map_cons, keyl_cons, hc]; rfl
        refine Or.inr (Or.inl ⟨?_, by rw [e]; exact (bytesLess_more _ _ _).2, h1⟩)
        rw [beq_eq_false_iff_ne]; intro e2
        have := congrArg List.length e2
        rw [e, List.length_append, List.length_cons] at this
        omega
    · have hl0 : (keyl l0).length = S.size := by rw [hS, length_list]
      have hl1 : (keyl l1).length = T.size := by rw [hT, length_list]
      by_cases hle : S.size ≤ T.size
      · refine Or.inl ⟨hle, ?_⟩
        rw [ByteArray.toList_eq, Lib.extract_data, List.drop_zero, Nat.sub_zero, ← hT, hS', hF, Bool.eq_iff_iff, beq_iff_eq, decide_eq_true_iff, ← hl0]
        constructor
        · intro e; exact e ▸ List.take_prefix _ _
        · rintro ⟨t, ht⟩; rw [← ht, List.take_left]
      · refine Or.inr ⟨by omega, ?_⟩
        rw [hF, decide_eq_false_iff_not]
        intro hp
        have := hp.length_le
        omega
    · rw [hF, decide_eq_true_iff]
      exact hk

end Go.Proofs.Ytognddehcfjiaaa
