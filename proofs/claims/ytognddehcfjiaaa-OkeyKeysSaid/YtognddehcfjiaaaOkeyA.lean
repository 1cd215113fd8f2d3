/- Walks of the small functions of okey: Num, Str, comparePart. -/
import Derived.Test.YtognddehcfjiaaaNumVar
import Derived.Lib.Bytealg
namespace Go.Proofs.Ytognddehcfjiaaa
open Go.RowKit

/-- A part. -/
structure Pt where
  t : Bool
  s : ByteArray
  n : Nat

/-- A part, as a value. -/
def partV (t : Bool) (s : ByteArray) (n : Nat) : Value := .agg #[.bool t, .string s, .int .u64 n]

set_option maxHeartbeats 400000 in
theorem num_any (n : Nat) (w : World) :
    Calls Try.prog 11 #[.int .u64 n] w (Gives (partV false ⟨#[]⟩ n) w) := by
  go_enter Try.func11, Try.ntmps11
  go_wp2_with fail
  exact bodyPost_ret (v := partV false ⟨#[]⟩ n) (by simp [results, Try.results11, go_sem, partV]) rfl ⟨rfl, (Below.refl _ _).alloc (Nat.le_refl _) _⟩

theorem bcell {W w1 : World} (hb : Below W.heap.size W w1) : (∀ b o, b < W.heap.size → w1.cell? ⟨b, o, none⟩ = W.cell? ⟨b, o, none⟩) ∧ (∀ b o, b < W.heap.size → w1.frozen? ⟨b, o, none⟩ = W.frozen? ⟨b, o, none⟩) :=
  ⟨fun b o h => hb.cell (p := ⟨b, o, none⟩) h, fun b o h => hb.frozen (p := ⟨b, o, none⟩) h⟩

set_option maxHeartbeats 400000 in
theorem str_any (s : ByteArray) (w : World) (hs : s.size ≤ 281474976710656) :
    Calls Try.prog 12 #[.string s] w (Gives (partV true s 0) w) := by
  have HS := Lib.hid hs; clear hs
  go_enter Try.func12, Try.ntmps12
  go_wp2_with fail
  refine (clone_any _ _ HS.out).mono ?_
  rintro e w1 ⟨rfl, hb⟩
  obtain ⟨hc, hf⟩ := bcell hb
  have hz : w.heap.size < w1.heap.size := by have := hb.size; simp at this; omega
  go_wp2_with fail
  refine bodyPost_ret (v := partV true s 0) (by simp [results, Try.results12, go_sem, partV, hc]) rfl ⟨rfl, ?_⟩
  exact ((((((Below.refl _ _).alloc (Nat.le_refl _) _).trans (hb.mono (by simp))).setCell (Nat.le_refl _) _).setCell (Nat.le_refl _) _).setCell (Nat.le_refl _) _)

/-- Which number is less. -/
def cmpN (a b : Int) : Int := if a < b then -1 else if b < a then 1 else 0

set_option maxHeartbeats 400000 in
theorem isNaN_any (a : Int) (w : World) :
    Calls Try.prog 45 #[.int .u64 a] w fun e w' => e = .returned (.bool false) ∧ w = w' := by
  go_enter Try.func45, Try.ntmps45
  go_wp2_with fail
  go_ret
  exact ⟨by simp, rfl⟩

set_option maxHeartbeats 400000 in
theorem cmpN_any (a b : Int) (w : World) :
    Calls Try.prog 38 #[.int .u64 a, .int .u64 b] w fun e w' => e = .returned (.int .i64 (cmpN a b)) ∧ w = w' := by
  rcases Int.lt_trichotomy a b with h | h | h
  · have e : cmpN a b = -1 := by unfold cmpN; rw [if_pos h]
    have HE := Lib.hid e; clear e
    generalize cmpN a b = c at *
    go_enter Try.func38, Try.ntmps38
    go_wp2_with fail
    refine (isNaN_any _ _).mono ?_
    rintro e w' ⟨rfl, rfl⟩
    go_wp2_with fail
    refine (isNaN_any _ _).mono ?_
    rintro e w' ⟨rfl, rfl⟩
    go_wp2_with fail
    go_ret
    rw [HE.out]; exact ⟨rfl, rfl⟩
  · subst h
    have e : cmpN a a = 0 := by unfold cmpN; simp
    have HE := Lib.hid e; clear e
    generalize cmpN a a = c at *
    go_enter Try.func38, Try.ntmps38
    go_wp2_with fail
    refine (isNaN_any _ _).mono ?_
    rintro e w' ⟨rfl, rfl⟩
    go_wp2_with fail
    refine (isNaN_any _ _).mono ?_
    rintro e w' ⟨rfl, rfl⟩
    go_wp2_with fail
    go_ret
    rw [HE.out]; exact ⟨rfl, rfl⟩
  · have e : cmpN a b = 1 := by unfold cmpN; rw [if_neg (by omega), if_pos h]
    have HE := Lib.hid e; clear e
    have h' : ¬ a < b := by omega
    generalize cmpN a b = c at *
    go_enter Try.func38, Try.ntmps38
    go_wp2_with fail
    refine (isNaN_any _ _).mono ?_
    rintro e w' ⟨rfl, rfl⟩
    go_wp2_with fail
    refine (isNaN_any _ _).mono ?_
    rintro e w' ⟨rfl, rfl⟩
    go_wp2_with fail
    go_ret
    rw [HE.out]; exact ⟨rfl, rfl⟩

set_option maxHeartbeats 400000 in
theorem compareString_any (a b : ByteArray) (w : World) :
    Calls Try.prog 44 #[.string a, .string b] w fun e w' => e = .returned (.int .i64 (Lib.compareBytes a.data.toList b.data.toList)) ∧ w = w' := by
  generalize hC : Lib.compareBytes a.data.toList b.data.toList = c
  have HC := Lib.hid hC; clear hC
  go_enter Try.func44, Try.ntmps44
  go_wp2
  rw [run_callFunc_extern Try.func50 (by kernel_rfl) (by kernel_rfl) (by kernel_rfl) (e := Extern.BytealgCompare.compare) (by kernel_rfl), Lib.run_compareString, HC.out]
  simp only [Result.andThen]
  rw [Oper.upon_value]
  go_wp2
  go_ret
  exact ⟨rfl, rfl⟩

set_option maxHeartbeats 400000 in
theorem compareS_any (a b : ByteArray) (w : World) :
    Calls Try.prog 37 #[.string a, .string b] w fun e w' => e = .returned (.int .i64 (Lib.compareBytes a.data.toList b.data.toList)) ∧ w = w' := by
  generalize hC : Lib.compareBytes a.data.toList b.data.toList = c
  have HC := Lib.hid hC; clear hC
  go_enter Try.func37, Try.ntmps37
  go_wp2_with fail
  refine (compareString_any _ _ _).mono ?_
  rintro e w' ⟨rfl, rfl⟩
  rw [HC.out]
  go_wp2_with fail
  go_ret
  exact ⟨rfl, rfl⟩

/-- Which part is ahead. -/
def cmpPt (a b : Pt) : Int := match a.t, b.t with
  | true, true => Lib.compareBytes a.s.data.toList b.s.data.toList
  | true, false => 1
  | false, true => -1
  | false, false => cmpN a.n b.n

set_option maxHeartbeats 800000 in
theorem comparePart_any (a b : Pt) (w : World) :
    Calls Try.prog 28 #[partV a.t a.s a.n, partV b.t b.s b.n] w (Gives (.int .i64 (cmpPt a b)) w) := by
  obtain ⟨at0, as0, an⟩ := a
  obtain ⟨bt, bs, bn⟩ := b
  have hbel : ∀ x y, Below w.heap.size w ((w.alloc x).alloc y) := fun x y => ((Below.refl _ _).alloc (Nat.le_refl _) _).alloc (by simp) _
  have HB := Lib.hid hbel; clear hbel
  cases at0 <;> cases bt <;> unfold cmpPt partV <;> dsimp only
  · generalize hC : cmpN an bn = c
    have HC := Lib.hid hC; clear hC
    go_enter Try.func28, Try.ntmps28
    go_wp2_with fail
    refine (cmpN_any _ _ _).mono ?_
    rintro e w' ⟨rfl, rfl⟩
    rw [HC.out]
    go_wp2_with fail
    go_ret
    exact ⟨rfl, HB.out _ _⟩
  · go_enter Try.func28, Try.ntmps28
    go_wp2_with fail
    go_ret
    exact ⟨rfl, HB.out _ _⟩
  · go_enter Try.func28, Try.ntmps28
    go_wp2_with fail
    go_ret
    exact ⟨rfl, HB.out _ _⟩
  · generalize hC : Lib.compareBytes as0.data.toList bs.data.toList = c
    have HC := Lib.hid hC; clear hC
    go_enter Try.func28, Try.ntmps28
    go_wp2_with fail
    refine (compareS_any _ _ _).mono ?_
    rintro e w' ⟨rfl, rfl⟩
    rw [HC.out]
    go_wp2_with fail
    go_ret
    exact ⟨rfl, HB.out _ _⟩

end Go.Proofs.Ytognddehcfjiaaa
