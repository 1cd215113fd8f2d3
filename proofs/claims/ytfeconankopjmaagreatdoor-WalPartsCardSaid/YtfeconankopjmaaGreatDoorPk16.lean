/- Texts on the program's own functions, several in one: DkG. -/
import Derived.Test.YtfeconankopjmaaGreatDoorPk13
import Derived.Test.YtfeconankopjmaaGreatDoorDkPlain
import Derived.Shelf.SlIter.Nil
import Derived.Shelf.SortM.Plain
import Derived.Shelf.SortM.SortNone
import Derived.Shelf.SlMaps.Clone

/- The walks of risingNames, maps.Clone over a directory that lies in memory. -/
namespace Go.Proofs.YtfeconankopjmaaGreatDoor
open Go.RowKit Go.Maps Go.Sort Go.Shelf
open Dk (Dir Chg Disk File Str)

theorem bytes_lt : ∀ (a b : List UInt8), bytesBefore a b = true → a < b
  | [], [], h => by simp [bytesBefore] at h
  | [], _ :: _, _ => List.nil_lt_cons _ _
  | _ :: _, [], h => by simp [bytesBefore] at h
  | a :: r, b :: s, h => by
    simp only [bytesBefore, Bool.or_eq_true, Bool.and_eq_true, decide_eq_true_eq, beq_iff_eq] at h
    rcases h with h | ⟨rfl, h⟩
    · exact List.cons_lt_cons_iff.2 (Or.inl h)
    · exact List.cons_lt_cons_iff.2 (Or.inr ⟨rfl, bytes_lt r s h⟩)

/-- The names of a directory that lies in memory rise. -/
theorem rising {w : World} {b n : Nat} {loc : Nat → Nat} {d : Dir} (h : w.ownsMap Tryz.prog 9 ptrElem b n (toD loc d)) : d.Pairwise (fun p q => bytesBefore p.1 q.1 = true) := by
  obtain ⟨es, clock, hb, F, hs, hD⟩ := h
  have hk : ChangeMaps.StrKeys (es.toList.map (WideElems.rg Tryz.prog 9 ptrElem)) := fun p hp => by
    obtain ⟨x, hx, rfl⟩ := List.mem_map.1 hp
    obtain ⟨y, hy⟩ := F.reads x hx
    rw [WideElems.rg_of hy]
    obtain ⟨s, _, hkl, _⟩ := Maps.keyOf_str Tryz.underlying9 (WideElems.rd_key hy)
    exact ⟨s, hkl⟩
  have hp := ChangeMaps.sorted_sorted _ hk (Maps.fit_apart law F)
  have he : d.map (ent loc) = (es.toList.map (WideElems.rg Tryz.prog 9 ptrElem)).foldr DataW.insert [] := by
    unfold toD at hD
    simpa using hD
  rw [← he, List.pairwise_map] at hp
  exact hp
theorem rising_le {d : Dir} (h : d.Pairwise (fun p q => bytesBefore p.1 q.1 = true)) : (d.map (·.1)).Pairwise (fun a b => leB a b = true) := by
  rw [List.pairwise_map]
  exact h.imp fun hpq => by
    have := bytes_lt _ _ hpq
    exact decide_eq_true (List.le_of_lt this)

/-- slices.Sort at this program. -/
theorem dk_sorts (m : Nat) : AnyZ.SortsIn Tryz.prog Tryz.dkSorted_ren Fence.wide m :=
  ⟨fun blk off cap ss W hH hblk hsz => callsIn_wide.2 (AnyM.slices_Sort_string Tryz.dkSort blk off cap ss W hH hblk hsz),
   fun p cap W => callsIn_wide.2 (AnyM.slices_Sort_string_none Tryz.dkSort p cap W)⟩
theorem dk_keys (mb : Option Nat) (W : World) : CallsIn Fence.wide 5 Tryz.prog 127 #[.map mb] W fun e w' => e = .returned (.func (.func 170) #[] #[.pointer (some ⟨W.heap.size, 0, none⟩)]) ∧ w' = W.alloc (.cells #[.map mb] 86) :=
  AnyZ.keys_in Tryz.dkKeys Fence.wide 5 trivial rfl mb W

set_option maxHeartbeats 1000000 in
theorem dk_sorted {H : Type} (b nn : Nat) (D0 : DataW H) (R : Value → Option (DataW H × List MemPlace)) (w : World) (hown : w.ownsMap Tryz.prog 9 R b nn D0) (hmax : Maps.size D0 ≤ maxLen) (hbytes : Maps.size D0 * 16 ≤ 140737488355328) :
    CallsIn Fence.wide 5 Tryz.prog 126 #[.func (.func 170) #[] #[.pointer (some ⟨w.heap.size, 0, none⟩)]] (w.alloc (.cells #[.map (some b)] 86)) fun e w' => ∃ (v : Value) (ss : List (List UInt8)), e = .returned v ∧ ss.Perm (strKeys D0) ∧
      w'.ownsRow (w.alloc (.cells #[.map (some b)] 86)).heap.size 9 1 v ss.length ((ss.mergeSort (fun x y => decide (x ≤ y))).map encStr) ∧ (v = .slice none 0 0 ↔ ss = []) ∧ Below (w.alloc (.cells #[.map (some b)] 86)).heap.size (w.alloc (.cells #[.map (some b)] 86)) w' := by
  have hbl := hown.lt
  have hseq : SeqGives Fence.wide 2 Tryz.prog 170 #[.pointer (some ⟨w.heap.size, 0, none⟩)] encStr (fun ss => ss.Perm (strKeys D0)) (Maps.size D0) (w.alloc (.cells #[.map (some b)] 86)) :=
    AnyZ.keys_gives (ρ := Tryz.dkKeys_ren) { Tryz.dkKeys with } Fence.wide _ trivial rfl (by omega) w.heap.size b nn D0 _ (by simp) (by simp) (by
      obtain ⟨es, clock, hb, Ft, hs, hD⟩ := hown
      exact ⟨es, clock, (Below.heap_alloc _ _ b hbl).trans hb, Ft, hs, hD⟩)
  exact AnyZ.sorted_in Tryz.dkSorted Fence.wide 5 trivial trivial trivial trivial rfl (by omega) (dk_sorts _) (enters_of Tryz.func169 (by kernel_rfl) rfl) 170 #[.pointer (some ⟨w.heap.size, 0, none⟩)] trivial (enters_of Tryz.func170 (by kernel_rfl) rfl) _ _ hmax hbytes _ hseq

def strV (s : Str) : Value := .string ⟨s.toArray⟩

set_option maxHeartbeats 1000000 in
/-- disk.risingNames: a new slice with the names of a directory, rising. -/
theorem rising_any {w : World} {b n : Nat} {loc : Nat → Nat} {d : Dir} (hown : w.ownsMap Tryz.prog 9 ptrElem b n (toD loc d)) (hd : d.length ≤ 1099511627776) :
    Calls Tryz.prog 94 #[.map (some b)] w fun e w' => ∃ v, e = .returned v ∧ w'.ownsRow w.heap.size 9 1 v d.length (d.map fun p => strV p.1) ∧ Below w.heap.size w w' := by
  have hsz : Maps.size (toD loc d) = d.length := toD_size loc d
  have hmax : Maps.size (toD loc d) ≤ maxLen := by rw [hsz]; unfold maxLen; omega
  have hbytes : Maps.size (toD loc d) * 16 ≤ 140737488355328 := by rw [hsz]; omega
  have hri := rising_le (rising hown)
  refine (callsIn_wide (n := 6)).1 ?_
  have hfK : Fence.wide.fn 127 := trivial
  have hfS : Fence.wide.fn 126 := trivial
  refine callsIn_of_wp Tryz.func94 rfl trivial ?_ rfl
  simp only [Tryz.ntmps94, List.size_toArray, List.length_cons, List.length_nil, Nat.reduceAdd, Nat.reduceSub, Array.replicate_succ, Array.replicate_zero, List.push_toArray, List.append_toArray, List.nil_append, List.cons_append]
  gi_wp2_with (first
    | (gi_at_call 127; refine (dk_keys _ _).mono ?_; rintro e w' ⟨rfl, rfl⟩)
    | (gi_at_call 126; refine (dk_sorted b n (toD loc d) ptrElem w hown hmax hbytes).mono ?_; rintro e w' ⟨v, ss, rfl, hS, hrow, hnil, hb⟩))
  go_ret
  have hm : ss.mergeSort (fun x y => decide (x ≤ y)) = d.map (·.1) := by
    rw [toD_keys] at hS
    exact (mergeSort_of_perm hS).trans (List.mergeSort_of_pairwise hri)
  have hl : ss.length = d.length := by rw [hS.length_eq, toD_keys, List.length_map]
  rw [hm, hl, List.map_map] at hrow
  exact ⟨v, rfl, ownsRow_base_a hrow (by simp), ((Below.refl _ w).alloc (Nat.le_refl _) _).trans (hb.mono (by simp))⟩

/-- maps.Clone of a directory. -/
theorem clone_dir {w : World} {b n : Nat} {loc : Nat → Nat} {d : Dir} (hown : w.ownsMap Tryz.prog 9 ptrElem b n (toD loc d)) :
    Calls Tryz.prog 71 #[.map (some b)] w fun e w' => e = .returned (.map (some w.heap.size)) ∧ w'.ownsMap Tryz.prog 9 ptrElem w.heap.size n (toD loc d) ∧ Below w.heap.size w w' :=
  (AnyW.maps_Clone_owns Tryz.dkClone 9 ptrElem b n (toD loc d) w hown).mono fun _ _ h => ⟨h.1, h.2.1, h.2.2.2⟩

end Go.Proofs.YtfeconankopjmaaGreatDoor
