/- The rows of BatchKnown: what each operation of their literal yields. -/
import Derived.Test.YtohfjibhfbcanaaBtCmp
import Derived.Test.YtohfjibhfbcanaaLit
namespace Go.Proofs.Ytohfjibhfbcanaa
open Go.RowKit
set_option linter.unusedVariables false
set_option linter.unusedSimpArgs false

def lng : ByteArray := ⟨#[48, 49, 50, 51, 52, 53, 54, 55, 56, 57, 48, 49, 50, 51, 52, 53, 54, 55, 56, 57, 48, 49, 50, 51, 52, 53, 54, 55, 56, 57, 48, 49, 50, 51, 52, 53, 54, 55, 56, 57, 48, 49, 50, 51, 52, 53, 54, 55, 56, 57, 48, 49, 50, 51, 52, 53, 54, 55, 56, 57, 48, 49, 50, 51]⟩
def obz : Ob := ⟨⟨#[]⟩, ⟨#[]⟩, false⟩
def obk : Ob := ⟨⟨#[107]⟩, ⟨#[]⟩, false⟩
def oa : Ob := ⟨⟨#[97]⟩, ⟨#[120]⟩, false⟩
def ob : Ob := ⟨⟨#[98]⟩, ⟨#[120]⟩, true⟩
def ol4 : Ob := ⟨lng ++ ⟨#[52]⟩, ⟨#[]⟩, false⟩
def oll : Ob := ⟨lng, ⟨#[]⟩, false⟩
def slc (B n : Nat) : Value := .slice (some ⟨B, 0, none⟩) n 17
/-- The rows: number, operations, error. -/
def rws : List (Nat × List Ob × Nat) := [(1, [], 1), (0, [oa], 1), (1, [ob], 1), (1, [obz], 1), (1, [ol4], 3), (1, List.replicate 17 obk, 3), (1, List.replicate 16 obk, 0), (1, [oll], 0), (9223372036854775808, List.replicate 1 obk, 0), (9223372036854775808, List.replicate 2 obk, 1), (18446744073709551615, List.replicate 2 obk, 1)]
def rwd : Nat × List Ob × Nat := (0, [], 0)
/-- The rows lie in memory. -/
def RowsAt (w : World) (v : Value) : Prop := ∃ b, v = .slice (some ⟨b, 0, none⟩) 11 11 ∧ b < w.heap.size ∧ ∀ k, k < 11 → ∃ ao cap,
  w.cell? ⟨b, k * 3, none⟩ = some (.int .u64 (rws.getD k rwd).1) ∧ w.cell? ⟨b, k * 3 + 1, none⟩ = some (.slice ao (rws.getD k rwd).2.1.length cap) ∧ w.cell? ⟨b, k * 3 + 2, none⟩ = some (.int .i64 (rws.getD k rwd).2.2) ∧ SeesO w (.slice ao (rws.getD k rwd).2.1.length cap) (rws.getD k rwd).2.1
theorem RowsAt.below {w w' : World} {v : Value} (h : RowsAt w v) (hb : Below w.heap.size w w') : RowsAt w' v := by
  obtain ⟨b, rfl, hlt, h⟩ := h
  refine ⟨b, rfl, Nat.lt_of_lt_of_le hlt hb.size, fun k hk => ?_⟩
  obtain ⟨ao, cap, c0, c1, c2, hs⟩ := h k hk
  exact ⟨ao, cap, (hb.cell (p := ⟨b, k * 3, none⟩) hlt).trans c0, (hb.cell (p := ⟨b, k * 3 + 1, none⟩) hlt).trans c1, (hb.cell (p := ⟨b, k * 3 + 2, none⟩) hlt).trans c2, hs.below hb⟩

inductive K | str (s : ByteArray) | op (o : Ob) | sl (l : List Ob) | eq (v : Value) | bat (seq : Nat) (l : List Ob) | row (seq : Nat) (l : List Ob) (e : Nat) | rows
def Kv : K → Value → World → Prop
  | .str s, v, _ => v = .string s
  | .op o, v, _ => v = .agg #[.string o.key, .string o.val, .bool o.gone]
  | .eq u, v, _ => v = u
  | .sl l, v, w => ∃ ao cap, v = .slice ao l.length cap ∧ SeesO w (.slice ao l.length cap) l
  | .bat seq l, v, w => ∃ ao cap, v = .agg #[.int .u64 seq, .slice ao l.length cap] ∧ SeesO w (.slice ao l.length cap) l
  | .row seq l e, v, w => ∃ ao cap, v = .agg #[.int .u64 seq, .slice ao l.length cap, .int .i64 e] ∧ SeesO w (.slice ao l.length cap) l
  | .rows, v, w => RowsAt w v
theorem Kv.below {k : K} {v : Value} {w w' : World} (hb : Below w.heap.size w w') (h : Kv k v w) : Kv k v w' := by
  cases k with
  | sl l => obtain ⟨ao, cap, e, hs⟩ := h; exact ⟨ao, cap, e, hs.below hb⟩
  | bat s l => obtain ⟨ao, cap, e, hs⟩ := h; exact ⟨ao, cap, e, hs.below hb⟩
  | row s l x => obtain ⟨ao, cap, e, hs⟩ := h; exact ⟨ao, cap, e, hs.below hb⟩
  | rows => exact RowsAt.below h hb
  | _ => exact h

def St (N : Nat) (g : Nat → Value) (df : List Deferred) (o : Oper) (k : K) (w : World) : Prop :=
  ∃ v w', (execOp (Fr N g df).eval o).run Try.prog w = .ok (.value v) w' ∧ Below w.heap.size w w' ∧ Kv k v w'

section
variable {N : Nat} {g : Nat → Value} {df : List Deferred} {w : World} {t d : Nat} {pos : String} {aft : Array Edge}
theorem st_mv {v : Value} {k : K} (ty : TypeId) (ht : t < N) (h : g t = v) (hk : Kv k v w) : St N g df ⟨some d, .move (.tmp t), ty, pos, aft, none⟩ k w := by
  have e := (Fr.tmp N g df t ht).trans h
  exact ⟨v, w, by simp only [execOp, e]; go_simp, Below.refl _ _, hk⟩
theorem st_asg {v : Value} {k : K} (ty : TypeId) (ht : t < N) (h : g t = v) (hk : Kv k v w) : St N g df ⟨some d, .assign (.tmp t), ty, pos, aft, none⟩ k w := by
  have e := (Fr.tmp N g df t ht).trans h
  exact ⟨v, w, by simp only [execOp, e]; go_simp, Below.refl _ _, hk⟩
theorem st_op1 {s : ByteArray} (ht : t < N) (h : Kv (.str s) (g t) w) : St N g df ⟨some d, .build 24 #[(0, .tmp t)], 24, pos, aft, none⟩ (.op ⟨s, ⟨#[]⟩, false⟩) w := by
  have e := (Fr.tmp N g df t ht).trans h
  refine ⟨_, w, ?_, Below.refl _ _, rfl⟩
  simp only [execOp, e, List.map_toArray, List.map_cons, List.map_nil]
  go_simp
theorem st_sl {o : Ob} (ht : t < N) (h : Kv (.op o) (g t) w) : St N g df ⟨some d, .buildSlice 22 1 #[(0, .tmp t)], 22, pos, aft, none⟩ (.sl [o]) w := by
  have e := (Fr.tmp N g df t ht).trans h
  refine ⟨.slice (some ⟨w.heap.size, 0, none⟩) 1 1, w.alloc (.cells #[.string o.key, .string o.val, .bool o.gone] 24), ?_, (Below.refl _ _).alloc (Nat.le_refl _) _, ?_⟩
  · simp only [execOp, e, List.map_toArray, List.map_cons, List.map_nil]
    go_simp
  · have hh := heap_alloc_new w (.cells #[.string o.key, .string o.val, .bool o.gone] 24)
    refine ⟨_, _, rfl, Or.inr ⟨w.heap.size, 0, 1, rfl, by rw [World.size_alloc]; omega, fun i hi => ?_⟩⟩
    obtain rfl : i = 0 := by simp at hi; exact hi
    refine ⟨?_, ?_, ?_⟩ <;> (simp only [World.cell?, hh]; rfl)
theorem st_bat {seq : Nat} {l : List Ob} {v0 : Int} (hv : v0 = seq) (ht : t < N) (h : Kv (.sl l) (g t) w) : St N g df ⟨some d, .build 27 #[(0, .const (.int .u64 v0)), (1, .tmp t)], 27, pos, aft, none⟩ (.bat seq l) w := by
  obtain ⟨ao, cap, h, hs⟩ := h
  subst hv
  have e := (Fr.tmp N g df t ht).trans h
  refine ⟨_, w, ?_, Below.refl _ _, ao, cap, rfl, hs⟩
  have e0 : (Fr N g df).eval (.const (.int .u64 seq)) = .int .u64 seq := rfl
  simp only [execOp, e, e0, List.map_toArray, List.map_cons, List.map_nil]
  go_simp
theorem st_bat0 {l : List Ob} (ht : t < N) (h : Kv (.sl l) (g t) w) : St N g df ⟨some d, .build 27 #[(1, .tmp t)], 27, pos, aft, none⟩ (.bat 0 l) w := by
  obtain ⟨ao, cap, h, hs⟩ := h
  have e := (Fr.tmp N g df t ht).trans h
  refine ⟨_, w, ?_, Below.refl _ _, ao, cap, rfl, hs⟩
  simp only [execOp, e, List.map_toArray, List.map_cons, List.map_nil]
  go_simp
theorem st_row {seq : Nat} {l : List Ob} {e : Nat} {e0 : Int} (he : e0 = e) (ht : t < N) (h : Kv (.bat seq l) (g t) w) : St N g df ⟨some d, .build 29 #[(0, .tmp t), (1, .const (.int .i64 e0))], 29, pos, aft, none⟩ (.row seq l e) w := by
  obtain ⟨ao, cap, h, hs⟩ := h
  subst he
  have e1 := (Fr.tmp N g df t ht).trans h
  refine ⟨_, w, ?_, Below.refl _ _, ao, cap, rfl, hs⟩
  have e2 : (Fr N g df).eval (.const (.int .i64 e)) = .int .i64 e := rfl
  simp only [execOp, e1, e2, List.map_toArray, List.map_cons, List.map_nil]
  go_simp
theorem st_cat {s : ByteArray} (hs : s.size ≤ 9223372036854775806) (ht : t < N) (h : Kv (.str s) (g t) w) : St N g df ⟨some d, .binOp .add 9 (.tmp t) (.const (.string ⟨#[52]⟩)) 9, 9, pos, aft, none⟩ (.str (s ++ ⟨#[52]⟩)) w := by
  have e := (Fr.tmp N g df t ht).trans h
  refine ⟨_, w, ?_, Below.refl _ _, rfl⟩
  have e0 : (Fr N g df).eval (.const (.string ⟨#[52]⟩)) = .string ⟨#[52]⟩ := rfl
  simp only [execOp, e, e0]
  go_simp
theorem st_cut {B : Nat} (n : Nat) {n0 : Int} (hn0 : n0 = n) (hn : n ≤ 17) (ht : t < N) (h : Kv (.eq (slc B 17)) (g t) w) : St N g df ⟨some d, .slice 22 (.tmp t) none (some (.const (.int .i64 n0))) none, 22, pos, aft, none⟩ (.eq (slc B n)) w := by
  have e := (Fr.tmp N g df t ht).trans h
  subst hn0
  refine ⟨_, w, ?_, Below.refl _ _, rfl⟩
  have e0 : (Fr N g df).eval (.const (.int .i64 n)) = .int .i64 n := rfl
  unfold slc at *
  have h1 : (n : Int) ≤ 17 := by omega
  simp only [execOp, e, e0, Option.map_some, Option.map_none]
  go_simp
theorem st_rows (hN : 70 ≤ N) (h0 : Kv (.row 1 ([]) 1) (g 26) w) (h1 : Kv (.row 0 ([oa]) 1) (g 30) w) (h2 : Kv (.row 1 ([ob]) 1) (g 34) w) (h3 : Kv (.row 1 ([obz]) 1) (g 38) w) (h4 : Kv (.row 1 ([ol4]) 3) (g 44) w) (h5 : Kv (.row 1 (List.replicate 17 obk) 3) (g 47) w) (h6 : Kv (.row 1 (List.replicate 16 obk) 0) (g 51) w) (h7 : Kv (.row 1 ([oll]) 0) (g 56) w) (h8 : Kv (.row 9223372036854775808 (List.replicate 1 obk) 0) (g 60) w) (h9 : Kv (.row 9223372036854775808 (List.replicate 2 obk) 1) (g 64) w) (h10 : Kv (.row 18446744073709551615 (List.replicate 2 obk) 1) (g 68) w) :
    St N g df ⟨some d, .buildSlice 30 11 #[(0, .tmp 26), (1, .tmp 30), (2, .tmp 34), (3, .tmp 38), (4, .tmp 44), (5, .tmp 47), (6, .tmp 51), (7, .tmp 56), (8, .tmp 60), (9, .tmp 64), (10, .tmp 68)], 30, pos, aft, none⟩ .rows w := by
  obtain ⟨a0, c0, h0, s0⟩ := h0
  obtain ⟨a1, c1, h1, s1⟩ := h1
  obtain ⟨a2, c2, h2, s2⟩ := h2
  obtain ⟨a3, c3, h3, s3⟩ := h3
  obtain ⟨a4, c4, h4, s4⟩ := h4
  obtain ⟨a5, c5, h5, s5⟩ := h5
  obtain ⟨a6, c6, h6, s6⟩ := h6
  obtain ⟨a7, c7, h7, s7⟩ := h7
  obtain ⟨a8, c8, h8, s8⟩ := h8
  obtain ⟨a9, c9, h9, s9⟩ := h9
  obtain ⟨a10, c10, h10, s10⟩ := h10
  have e0 := (Fr.tmp N g df 26 (by omega)).trans h0
  have e1 := (Fr.tmp N g df 30 (by omega)).trans h1
  have e2 := (Fr.tmp N g df 34 (by omega)).trans h2
  have e3 := (Fr.tmp N g df 38 (by omega)).trans h3
  have e4 := (Fr.tmp N g df 44 (by omega)).trans h4
  have e5 := (Fr.tmp N g df 47 (by omega)).trans h5
  have e6 := (Fr.tmp N g df 51 (by omega)).trans h6
  have e7 := (Fr.tmp N g df 56 (by omega)).trans h7
  have e8 := (Fr.tmp N g df 60 (by omega)).trans h8
  have e9 := (Fr.tmp N g df 64 (by omega)).trans h9
  have e10 := (Fr.tmp N g df 68 (by omega)).trans h10
  have hh := heap_alloc_new w (.cells #[.int .u64 (1 : Nat), .slice a0 0 c0, .int .i64 (1 : Nat), .int .u64 (0 : Nat), .slice a1 ([oa]).length c1, .int .i64 (1 : Nat), .int .u64 (1 : Nat), .slice a2 ([ob]).length c2, .int .i64 (1 : Nat), .int .u64 (1 : Nat), .slice a3 ([obz]).length c3, .int .i64 (1 : Nat), .int .u64 (1 : Nat), .slice a4 ([ol4]).length c4, .int .i64 (3 : Nat), .int .u64 (1 : Nat), .slice a5 (List.replicate 17 obk).length c5, .int .i64 (3 : Nat), .int .u64 (1 : Nat), .slice a6 (List.replicate 16 obk).length c6, .int .i64 (0 : Nat), .int .u64 (1 : Nat), .slice a7 ([oll]).length c7, .int .i64 (0 : Nat), .int .u64 (9223372036854775808 : Nat), .slice a8 (List.replicate 1 obk).length c8, .int .i64 (0 : Nat), .int .u64 (9223372036854775808 : Nat), .slice a9 (List.replicate 2 obk).length c9, .int .i64 (1 : Nat), .int .u64 (18446744073709551615 : Nat), .slice a10 (List.replicate 2 obk).length c10, .int .i64 (1 : Nat)] 29)
  have hb : Below w.heap.size w (w.alloc (.cells #[.int .u64 (1 : Nat), .slice a0 0 c0, .int .i64 (1 : Nat), .int .u64 (0 : Nat), .slice a1 ([oa]).length c1, .int .i64 (1 : Nat), .int .u64 (1 : Nat), .slice a2 ([ob]).length c2, .int .i64 (1 : Nat), .int .u64 (1 : Nat), .slice a3 ([obz]).length c3, .int .i64 (1 : Nat), .int .u64 (1 : Nat), .slice a4 ([ol4]).length c4, .int .i64 (3 : Nat), .int .u64 (1 : Nat), .slice a5 (List.replicate 17 obk).length c5, .int .i64 (3 : Nat), .int .u64 (1 : Nat), .slice a6 (List.replicate 16 obk).length c6, .int .i64 (0 : Nat), .int .u64 (1 : Nat), .slice a7 ([oll]).length c7, .int .i64 (0 : Nat), .int .u64 (9223372036854775808 : Nat), .slice a8 (List.replicate 1 obk).length c8, .int .i64 (0 : Nat), .int .u64 (9223372036854775808 : Nat), .slice a9 (List.replicate 2 obk).length c9, .int .i64 (1 : Nat), .int .u64 (18446744073709551615 : Nat), .slice a10 (List.replicate 2 obk).length c10, .int .i64 (1 : Nat)] 29)) := (Below.refl _ _).alloc (Nat.le_refl _) _
  refine ⟨.slice (some ⟨w.heap.size, 0, none⟩) 11 11, _, ?_, hb, w.heap.size, rfl, by rw [World.size_alloc]; omega, fun k hk => ?_⟩
  · simp only [execOp, e0, e1, e2, e3, e4, e5, e6, e7, e8, e9, e10, List.map_toArray, List.map_cons, List.map_nil]
    go_simp
  · match k, hk with
    | 0, _ => exact ⟨a0, c0, by simp only [World.cell?, hh]; rfl, by simp only [World.cell?, hh]; rfl, by simp only [World.cell?, hh]; rfl, s0.below hb⟩
    | 1, _ => exact ⟨a1, c1, by simp only [World.cell?, hh]; rfl, by simp only [World.cell?, hh]; rfl, by simp only [World.cell?, hh]; rfl, s1.below hb⟩
    | 2, _ => exact ⟨a2, c2, by simp only [World.cell?, hh]; rfl, by simp only [World.cell?, hh]; rfl, by simp only [World.cell?, hh]; rfl, s2.below hb⟩
    | 3, _ => exact ⟨a3, c3, by simp only [World.cell?, hh]; rfl, by simp only [World.cell?, hh]; rfl, by simp only [World.cell?, hh]; rfl, s3.below hb⟩
    | 4, _ => exact ⟨a4, c4, by simp only [World.cell?, hh]; rfl, by simp only [World.cell?, hh]; rfl, by simp only [World.cell?, hh]; rfl, s4.below hb⟩
    | 5, _ => exact ⟨a5, c5, by simp only [World.cell?, hh]; rfl, by simp only [World.cell?, hh]; rfl, by simp only [World.cell?, hh]; rfl, s5.below hb⟩
    | 6, _ => exact ⟨a6, c6, by simp only [World.cell?, hh]; rfl, by simp only [World.cell?, hh]; rfl, by simp only [World.cell?, hh]; rfl, s6.below hb⟩
    | 7, _ => exact ⟨a7, c7, by simp only [World.cell?, hh]; rfl, by simp only [World.cell?, hh]; rfl, by simp only [World.cell?, hh]; rfl, s7.below hb⟩
    | 8, _ => exact ⟨a8, c8, by simp only [World.cell?, hh]; rfl, by simp only [World.cell?, hh]; rfl, by simp only [World.cell?, hh]; rfl, s8.below hb⟩
    | 9, _ => exact ⟨a9, c9, by simp only [World.cell?, hh]; rfl, by simp only [World.cell?, hh]; rfl, by simp only [World.cell?, hh]; rfl, s9.below hb⟩
    | 10, _ => exact ⟨a10, c10, by simp only [World.cell?, hh]; rfl, by simp only [World.cell?, hh]; rfl, by simp only [World.cell?, hh]; rfl, s10.below hb⟩
end

end Go.Proofs.Ytohfjibhfbcanaa
