/- The walks of block's Open, Len, At. -/
import Derived.Test.YtjpmcphfiiiecaaBoG
import Derived.Deep.RegionHeld3
namespace Go.Proofs.Ytjpmcphfiiiecaa.Bo
open Go Go.RowKit
set_option linter.unusedVariables false

/-- A block lies there. -/
structure Blk (w : World) (base p : Nat) (v : Value) (rs : List Row) : Prop where
  box : w.heap[p]? = some (.cells #[v] 68 (0, 0))
  own : OwnsR w base v rs
theorem Blk.below {w w' : World} {base p : Nat} {v : Value} {rs : List Row} (h : Blk w base p v rs) (hb : Below w.heap.size w w') : Blk w' base p v rs := ⟨(hb.block _ (heap_lt h.box)).trans h.box, h.own.below hb⟩
theorem Blk.c0 {w : World} {base p : Nat} {v : Value} {rs : List Row} (h : Blk w base p v rs) : w.cell? ⟨p, 0, none⟩ = some v := by rw [cell_of h.box]; rfl
/-- A block was opened, or none. -/
def Opened (o : Option (List En)) (w : World) (e : Ending) (w' : World) : Prop :=
  Below w.heap.size w w' ∧ match o with
  | none => e = .returned (.tuple #[.pointer none, .int .i64 8])
  | some l => ∃ p v rs, e = .returned (.tuple #[.pointer (some ⟨p, 0, none⟩), .int .i64 0]) ∧ Blk w' w.heap.size p v rs ∧ rs.map Prod.snd = l ∧ w.heap.size ≤ p

set_option maxHeartbeats 1000000 in
theorem open_any (s : ByteArray) (w : World) (hs : s.size ≤ 1000000) :
    Calls Try.prog 13 #[.string s] w (Opened (opn s.data.toList) w) := by
  have HS := Lib.hid hs
  have HP := Lib.hid (fun W => parts_any s W (by omega))
  cases hp : parts s.data.toList with
  | none =>
    have HE : Hid (opn s.data.toList = none) := Lib.hid (by unfold opn; rw [hp])
    rw [hp] at HP
    rw [HE.out]
    unfold partsV at HP
    dsimp only at HP
    clear hp
    go_enter Try.func13, Try.ntmps13
    go_wp2_with fail
    refine (HP.out _).mono ?_
    rintro e w1 ⟨rfl, rfl⟩
    go_wp2_with fail
    go_ret2
    exact ⟨Below.refl _ _, rfl⟩
  | some x =>
    obtain ⟨r, n⟩ := x
    rw [hp] at HP
    have hn : n ≤ 1000000 ∧ r.length ≤ 1000000 := by
      unfold parts at hp
      split at hp
      · cases hp
      · split at hp
        · cases hp
        · simp only [Option.some.injEq, Prod.mk.injEq] at hp
          rw [len] at hp
          obtain ⟨rfl, rfl⟩ := hp
          rename_i h1 h2
          rw [len] at h1 h2
          rw [List.length_take, len]
          omega
    have HRE := Lib.hid (fun W => readEntries_any ⟨r.toArray⟩ n W (by rw [size_mk]; exact hn.2) hn.1)
    have HNN := Lib.hid hn.1
    unfold partsV at HP
    dsimp only at HP
    cases hr : rds n 0 [] r with
    | none =>
      have HE : Hid (opn s.data.toList = none) := Lib.hid (by unfold opn; rw [hp]; simp only; rw [hr])
      rw [HE.out]
      have HRE2 : Hid (∀ W, Calls Try.prog 31 #[.string ⟨r.toArray⟩, .int .u64 (n : Int)] W (EsRead none W)) := Lib.hid (fun W => by have := HRE.out W; rw [show rds n 0 [] (⟨r.toArray⟩ : ByteArray).data.toList = none from hr] at this; exact this)
      clear hp hn hr HRE
      generalize (⟨r.toArray⟩ : ByteArray) = RB at *
      go_enter Try.func13, Try.ntmps13
      go_wp2_with fail
      refine (HP.out _).mono ?_
      rintro e w1 ⟨rfl, rfl⟩
      go_wp2_with fail
      refine (HRE2.out _).mono ?_
      rintro e w2 ⟨hb2, he⟩
      dsimp only at he
      subst he
      go_wp2_with fail
      go_ret2
      exact ⟨hb2, rfl⟩
    | some l =>
      have HRE2 : Hid (∀ W, Calls Try.prog 31 #[.string ⟨r.toArray⟩, .int .u64 (n : Int)] W (EsRead (some l) W)) := Lib.hid (fun W => by have := HRE.out W; rw [show rds n 0 [] (⟨r.toArray⟩ : ByteArray).data.toList = some l from hr] at this; exact this)
      have hll := rds_length _ _ _ _ _ hr
      have HO : Hid (opn s.data.toList = if bld l = s.data.toList then some l else none) := Lib.hid (by unfold opn; rw [hp]; simp only; rw [hr])
      have HLL := Lib.hid hll
      clear hp hn hr HRE hll
      generalize (⟨r.toArray⟩ : ByteArray) = RB at *
      by_cases hb : bld l = s.data.toList
      · rw [HO.out, if_pos hb]
        have HBB : Hid ((⟨(bld l).toArray⟩ : ByteArray) = s) := Lib.hid (by rw [hb])
        clear hb HO
        go_enter Try.func13, Try.ntmps13
        go_wp2_with fail
        refine (HP.out _).mono ?_
        rintro e w1 ⟨rfl, rfl⟩
        go_wp2_with fail
        refine (HRE2.out _).mono ?_
        rintro e w2 ⟨hb2, v, rs, rfl, hown, hrs⟩
        obtain ⟨a, c, rfl⟩ := hown.shape
        have hlen : rs.length = n := by rw [← HLL.out, ← hrs, List.length_map]
        have HBU := Lib.hid (build_any a rs.length c rs w2 _ hown rfl (by rw [hlen]; exact HNN.out))
        rw [hrs, HBB.out] at HBU
        have HB2 := Lib.hid hb2; have HOWN := Lib.hid hown; have HRS := Lib.hid hrs
        clear hb2 hown hrs hlen
        generalize rs.length = rl at *
        go_wp2_with fail
        refine HBU.out.mono ?_
        rintro e w3 ⟨rfl, hb3⟩
        have HB3 := Lib.hid hb3; clear hb3
        go_wp2_with fail
        go_ret2
        have hs3 := HB3.out.size
        have hs2 := HB2.out.size
        exact ⟨(HB2.out.trans (HB3.out.mono hs2)).alloc (by omega) _, _, _, rs, rfl, ⟨heap_alloc_new _ _, (HOWN.out.below HB3.out).below ((Below.refl _ _).alloc (Nat.le_refl _) _)⟩, HRS.out, by omega⟩
      · rw [HO.out, if_neg hb]
        have hne : ((⟨(bld l).toArray⟩ : ByteArray).toList == s.toList) = false := by
          rw [ByteArray.toList_eq, ByteArray.toList_eq]
          exact beq_eq_false_iff_ne.2 hb
        clear hb HO
        go_enter Try.func13, Try.ntmps13
        go_wp2_with fail
        refine (HP.out _).mono ?_
        rintro e w1 ⟨rfl, rfl⟩
        go_wp2_with fail
        refine (HRE2.out _).mono ?_
        rintro e w2 ⟨hb2, v, rs, rfl, hown, hrs⟩
        obtain ⟨a, c, rfl⟩ := hown.shape
        have hlen : rs.length = n := by rw [← HLL.out, ← hrs, List.length_map]
        have HBU := Lib.hid (build_any a rs.length c rs w2 _ hown rfl (by rw [hlen]; exact HNN.out))
        rw [hrs] at HBU
        generalize (⟨(bld l).toArray⟩ : ByteArray) = X at *
        have HB2 := Lib.hid hb2
        clear hb2 hown hrs hlen
        generalize rs.length = rl at *
        go_wp2_with fail
        refine HBU.out.mono ?_
        rintro e w3 ⟨rfl, hb3⟩
        have HB3 := Lib.hid hb3; clear hb3
        go_wp2_with fail
        go_ret2
        exact ⟨HB2.out.trans (HB3.out.mono HB2.out.size), rfl⟩

theorem len_nil (w : World) : Calls Try.prog 15 #[.pointer none] w fun e w' => e = .returned (.int .i64 0) ∧ w = w' := by
  go_enter Try.func15, Try.ntmps15
  go_wp2_with fail
  go_ret
  exact ⟨rfl, rfl⟩
theorem len_any {w : World} {base p : Nat} {v : Value} {rs : List Row} (h : Blk w base p v rs) : Calls Try.prog 15 #[.pointer (some ⟨p, 0, none⟩)] w fun e w' => e = .returned (.int .i64 (rs.length : Int)) ∧ w = w' := by
  obtain ⟨a, c, rfl⟩ := h.own.shape
  have c0 := h.c0
  clear h
  generalize rs.length = n at *
  go_enter Try.func15, Try.ntmps15
  go_wp2_with fail
  go_ret
  exact ⟨rfl, rfl⟩
/-- What At answers. -/
def atV (l : List En) (i : Int) : Value := if i < 0 then .tuple #[.string ⟨#[]⟩, .string ⟨#[]⟩, .bool false] else match l[i.toNat]? with
  | none => .tuple #[.string ⟨#[]⟩, .string ⟨#[]⟩, .bool false]
  | some e => .tuple #[.string e.key, .string e.val, .bool true]
theorem at_low (p : Option Addr) (i : Int) (w : World) (hi : i < 0) : Calls Try.prog 14 #[.pointer p, .int .i64 i] w (Gives (.tuple #[.string ⟨#[]⟩, .string ⟨#[]⟩, .bool false]) w) := by
  go_enter Try.func14, Try.ntmps14
  go_wp2_with fail
  go_ret3
  exact ⟨rfl, Below.refl _ _⟩
theorem at_nil (i : Int) (w : World) (hi : 0 ≤ i) : Calls Try.prog 14 #[.pointer none, .int .i64 i] w (Gives (.tuple #[.string ⟨#[]⟩, .string ⟨#[]⟩, .bool false]) w) := by
  have h0 : ¬ i < 0 := by omega
  go_enter Try.func14, Try.ntmps14
  go_wp2_with fail
  refine (len_nil _).mono ?_
  rintro e w1 ⟨rfl, rfl⟩
  go_wp2_with fail
  go_ret3
  exact ⟨rfl, Below.refl _ _⟩
theorem at_high {w : World} {base p : Nat} {v : Value} {rs : List Row} (h : Blk w base p v rs) (i : Int) (hi : (rs.length : Int) ≤ i) : Calls Try.prog 14 #[.pointer (some ⟨p, 0, none⟩), .int .i64 i] w (Gives (.tuple #[.string ⟨#[]⟩, .string ⟨#[]⟩, .bool false]) w) := by
  have h0 : ¬ i < 0 := by omega
  have HL := Lib.hid (len_any h)
  clear h
  generalize rs.length = n at *
  go_enter Try.func14, Try.ntmps14
  go_wp2_with fail
  refine HL.out.mono ?_
  rintro e w1 ⟨rfl, rfl⟩
  go_wp2_with fail
  go_ret3
  exact ⟨rfl, Below.refl _ _⟩
end Go.Proofs.Ytjpmcphfiiiecaa.Bo
