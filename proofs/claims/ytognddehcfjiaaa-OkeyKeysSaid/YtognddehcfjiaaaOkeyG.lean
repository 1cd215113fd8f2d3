/- The walk of okey.readPart. -/
import Derived.Test.YtognddehcfjiaaaOkeyF
import Derived.Test.YtognddehcfjiaaaRefRow
namespace Go.Proofs.Ytognddehcfjiaaa
open Go.RowKit
set_option linter.unusedVariables false

/-- What readPart answers. -/
def rpT (t : Bool) (s : ByteArray) (n : Nat) (k : Int) (ok : Bool) : Value := .tuple #[partV t s n, .int .i64 k, .bool ok]

set_option maxHeartbeats 1000000 in
theorem readPart_num (s : ByteArray) (n k : Nat) (ok : Bool) (w : World) (hs : s.size ≤ 1099511627776) (h1 : 1 ≤ s.size) (hk : (k : Int) ≤ 1099511627776)
    (hx : ∀ w : World, (Instr.index 9 (.string s) (.int .i64 0)).run Try.prog w = .ok (.int .u8 1) w)
    (hv : rvV (s.data.toList.drop 1) = .tuple #[.int .u64 n, .int .i64 k, .bool ok]) :
    Calls Try.prog 24 #[.string s] w (Gives (rpT false ⟨#[]⟩ n (1 + (k : Int)) ok) w) := by
  have HV := Lib.hid hv; have HS := Lib.hid hs; clear hv
  go_enter Try.func24, Try.ntmps24
  go_wp2_with fail
  refine (readVar_any _ _ (by have := HS.out; have := extract_size s h1; omega)).mono ?_
  rintro e w' ⟨rfl, rfl⟩
  rw [Lib.extract_to_end, HV.out]
  go_wp2_with fail
  refine (num_any _ _).mono ?_
  rintro e w1 ⟨rfl, hb⟩
  obtain ⟨hc, hf⟩ := bcell hb
  have hz : w.heap.size < w1.heap.size := by have := hb.size; simp at this; omega
  unfold partV
  go_wp2_with fail
  refine bodyPost_ret (v := rpT false ⟨#[]⟩ n (1 + (k : Int)) ok) (by simp [results, Try.results24, go_sem, partV, rpT, hc]) rfl ⟨rfl, ?_⟩
  exact ((((((Below.refl _ _).alloc (Nat.le_refl _) _).trans (hb.mono (by simp))).setCell (Nat.le_refl _) _).setCell (Nat.le_refl _) _).setCell (Nat.le_refl _) _)

set_option maxHeartbeats 1000000 in
theorem readPart_text (s t : ByteArray) (k : Nat) (ok : Bool) (w : World) (hs : s.size ≤ 1099511627776) (h1 : 1 ≤ s.size) (hk : (k : Int) ≤ 1099511627776)
    (hx : ∀ w : World, (Instr.index 9 (.string s) (.int .i64 0)).run Try.prog w = .ok (.int .u8 2) w)
    (hv : rtxV (rtx (s.data.toList.drop 1)) = .tuple #[.string t, .int .i64 k, .bool ok]) :
    Calls Try.prog 24 #[.string s] w (Gives (rpT true t 0 (1 + (k : Int)) ok) w) := by
  have HV := Lib.hid hv; have HS := Lib.hid hs; clear hv
  go_enter Try.func24, Try.ntmps24
  go_wp2_with fail
  refine (readTextK_any _ _ (by have := HS.out; have := extract_size s h1; omega)).mono ?_
  rintro e w1 ⟨rfl, hb⟩
  rw [Lib.extract_to_end, HV.out]
  obtain ⟨hc, hf⟩ := bcell hb
  have hz : w.heap.size < w1.heap.size := by have := hb.size; simp at this; omega
  go_wp2_with fail
  refine bodyPost_ret (v := rpT true t 0 (1 + (k : Int)) ok) (by simp [results, Try.results24, go_sem, partV, rpT, hc]) rfl ⟨rfl, ?_⟩
  exact ((((((Below.refl _ _).alloc (Nat.le_refl _) _).trans (hb.mono (by simp))).setCell (Nat.le_refl _) _).setCell (Nat.le_refl _) _).setCell (Nat.le_refl _) _)

set_option maxHeartbeats 1000000 in
theorem readPart_bad (s : ByteArray) (c : Int) (w : World) (h1 : 1 ≤ s.size) (hn1 : c ≠ 1) (hn2 : c ≠ 2)
    (hx : ∀ w : World, (Instr.index 9 (.string s) (.int .i64 0)).run Try.prog w = .ok (.int .u8 c) w) :
    Calls Try.prog 24 #[.string s] w (Gives (rpT false ⟨#[]⟩ 0 0 false) w) := by
  have hn1' : (c == 1) = false := by rw [beq_eq_false_iff_ne]; exact hn1
  have hn2' : (c == 2) = false := by rw [beq_eq_false_iff_ne]; exact hn2
  clear hn1 hn2
  go_enter Try.func24, Try.ntmps24
  go_wp2_with fail
  refine bodyPost_ret (v := rpT false ⟨#[]⟩ 0 0 false) (by simp [results, Try.results24, go_sem, partV, rpT]) rfl ⟨rfl, ?_⟩
  exact (Below.refl _ _).alloc (Nat.le_refl _) _

/-- The part whose bytes a key begins with, and how many these are. -/
def rp : List UInt8 → Option (Pt × Nat)
  | [] => none
  | b :: r => if b = 1 then (Nm.rv r).map fun x => (⟨false, ⟨#[]⟩, x.1⟩, 1 + x.2)
    else if b = 2 then (rtx r).map fun x => (⟨true, ⟨x.1.toArray⟩, 0⟩, 1 + x.2) else none

theorem rp_one (r : List UInt8) : rp (1 :: r) = (Nm.rv r).map fun x => (⟨false, ⟨#[]⟩, x.1⟩, 1 + x.2) := by rw [rp, if_pos rfl]
theorem rp_two (r : List UInt8) : rp (2 :: r) = (rtx r).map fun x => (⟨true, ⟨x.1.toArray⟩, 0⟩, 1 + x.2) := by rw [rp, if_neg (by decide), if_pos rfl]
theorem rp_bad (b : UInt8) (r : List UInt8) (h1 : b ≠ 1) (h2 : b ≠ 2) : rp (b :: r) = none := by rw [rp, if_neg h1, if_neg h2]

/-- A part was read, or none. -/
def PartRead (o : Option (Pt × Nat)) (w : World) (e : Ending) (w' : World) : Prop :=
  (∃ t s n k, e = .returned (rpT t s n k o.isSome) ∧ ∀ p j, o = some (p, j) → t = p.t ∧ s = p.s ∧ n = p.n ∧ k = (j : Nat)) ∧ Below w.heap.size w w'

theorem rtx_le : ∀ (m : Nat) (l : List UInt8), l.length ≤ m → ∀ x, rtx l = some x → x.2 ≤ l.length ∧ 1 ≤ x.2
  | 0, [], _, x, h => by simp [rtx] at h
  | 0, _ :: _, hm, _, _ => by simp at hm
  | m + 1, [], _, x, h => by simp [rtx] at h
  | m + 1, b :: r, hm, x, h => by
    have hr : r.length ≤ m := by simpa using hm
    rw [rtx.eq_def] at h
    simp only at h
    split at h
    · split at h
      · cases h
      · rename_i c r'
        split at h
        · simp only [Option.some.injEq] at h
          subst h
          simp
        · split at h
          · simp only [Option.map_eq_some_iff] at h
            obtain ⟨y, hy, rfl⟩ := h
            have := rtx_le m r' (by simp at hr; omega) y hy
            simp; omega
          · cases h
    · simp only [Option.map_eq_some_iff] at h
      obtain ⟨y, hy, rfl⟩ := h
      have := rtx_le m r hr y hy
      simp; omega

theorem readPart_any (s : ByteArray) (w : World) (hs : s.size ≤ 1000000000000) (h1 : 1 ≤ s.size) :
    Calls Try.prog 24 #[.string s] w (PartRead (rp s.data.toList) w) := by
  have hx := index_byte s 0 h1
  have hd : s.data.toList = s[0] :: s.data.toList.drop 1 := drop_cons s 0 h1
  have hlen : (s.data.toList.drop 1).length ≤ 1000000000000 := by rw [List.length_drop, length_list]; omega
  rw [hd]
  generalize s[0] = b at *
  have hlt := b.toNat_lt
  by_cases hb1 : b = 1
  · subst hb1
    cases hv : Nm.rv (s.data.toList.drop 1) with
    | none =>
      refine (readPart_num s 0 0 false w (by omega) h1 (by omega) hx (rvV_none hv)).mono ?_
      rintro e w' ⟨rfl, hb⟩
      have e : rp (1 :: s.data.toList.drop 1) = none := by rw [rp_one, hv]; rfl
      rw [e]
      exact ⟨⟨_, _, _, _, rfl, fun p j h => by cases h⟩, hb⟩
    | some x =>
      obtain ⟨n, k⟩ := x
      have hk := Nm.row_rv hv
      refine (readPart_num s n k true w (by omega) h1 (by omega) hx (rvV_some hv)).mono ?_
      rintro e w' ⟨rfl, hb⟩
      have e : rp (1 :: s.data.toList.drop 1) = some (⟨false, ⟨#[]⟩, n⟩, 1 + k) := by rw [rp_one, hv]; rfl
      rw [e]
      refine ⟨⟨_, _, _, _, rfl, fun p j h => ?_⟩, hb⟩
      simp only [Option.some.injEq, Prod.mk.injEq] at h
      obtain ⟨rfl, rfl⟩ := h
      exact ⟨rfl, rfl, rfl, by simp⟩
  · by_cases hb2 : b = 2
    · subst hb2
      cases hv : rtx (s.data.toList.drop 1) with
      | none =>
        refine (readPart_text s ByteArray.empty 0 false w (by omega) h1 (by omega) hx (by rw [hv]; rfl)).mono ?_
        rintro e w' ⟨rfl, hb⟩
        have e : rp (2 :: s.data.toList.drop 1) = none := by rw [rp_two, hv]; rfl
        rw [e]
        exact ⟨⟨_, _, _, _, rfl, fun p j h => by cases h⟩, hb⟩
      | some x =>
        have hk := rtx_le _ _ (Nat.le_refl _) x hv
        refine (readPart_text s ⟨x.1.toArray⟩ x.2 true w (by omega) h1 (by omega) hx (by rw [hv]; rfl)).mono ?_
        rintro e w' ⟨rfl, hb⟩
        have e : rp (2 :: s.data.toList.drop 1) = some (⟨true, ⟨x.1.toArray⟩, 0⟩, 1 + x.2) := by rw [rp_two, hv]; rfl
        rw [e]
        refine ⟨⟨_, _, _, _, rfl, fun p j h => ?_⟩, hb⟩
        simp only [Option.some.injEq, Prod.mk.injEq] at h
        obtain ⟨rfl, rfl⟩ := h
        exact ⟨rfl, rfl, rfl, by simp⟩
    · have n1 : (b.toNat : Int) ≠ 1 := fun e => hb1 (UInt8.toNat.inj (by show b.toNat = 1; omega))
      have n2 : (b.toNat : Int) ≠ 2 := fun e => hb2 (UInt8.toNat.inj (by show b.toNat = 2; omega))
      refine (readPart_bad s _ w h1 n1 n2 hx).mono ?_
      rintro e w' ⟨rfl, hb⟩
      have e : rp (b :: s.data.toList.drop 1) = none := rp_bad _ _ hb1 hb2
      rw [e]
      exact ⟨⟨_, _, _, _, rfl, fun p j h => by cases h⟩, hb⟩

end Go.Proofs.Ytognddehcfjiaaa
