/- The walks of batch.readOps and Decode. -/
import Derived.Test.YtohfjibhfbcanaaBtE
import Derived.Test.YtohfjibhfbcanaaGrow
import Derived.Deep.AppendLies
namespace Go.Proofs.Ytohfjibhfbcanaa
open Go.RowKit
set_option linter.unusedVariables false

theorem info_op : (Try.prog.info? 24).map (fun i => (i.zero, i.size, i.bytes)) = some (some (.agg #[.string ⟨#[]⟩, .string ⟨#[]⟩, .bool false]), 3, 40) := by kernel_rfl

def cellsO (p : Ob) : List Value := [.string p.key, .string p.val, .bool p.gone]
/-- A slice of operations that is the call's own, from a block on. -/
def OwnsO (w : World) (base : Nat) (v : Value) (ps : List Ob) : Prop := w.ownsRow base 24 3 v ps.length (ps.flatMap cellsO)
theorem OwnsO.nil (w : World) (base : Nat) : OwnsO w base (.slice none 0 0) [] := World.ownsRow_nil ..
theorem OwnsO.snoc {w' : World} {base : Nat} {v' : Value} {ps : List Ob} {p : Ob} (h : w'.ownsRow base 24 3 v' (ps.length + 1) (ps.flatMap cellsO ++ [.string p.key, .string p.val, .bool p.gone])) : OwnsO w' base v' (ps ++ [p]) := by
  unfold OwnsO
  rw [List.length_append, List.flatMap_append, List.flatMap_singleton]
  exact h
theorem cellsO_at (ps : List Ob) (i : Nat) (h : i < ps.length) : (ps.flatMap cellsO)[i * 3]? = some (.string (ps.getD i obd).key) ∧ (ps.flatMap cellsO)[i * 3 + 1]? = some (.string (ps.getD i obd).val) ∧ (ps.flatMap cellsO)[i * 3 + 2]? = some (.bool (ps.getD i obd).gone) := by
  induction ps generalizing i with
  | nil => simp at h
  | cons p ps ih =>
    cases i with
    | zero => simp [cellsO]
    | succ i =>
      have hi : i < ps.length := by simpa using h
      obtain ⟨h0, h1, h2⟩ := ih i hi
      rw [List.getD_cons_succ, List.flatMap_cons]
      have e : ∀ j, (cellsO p ++ ps.flatMap cellsO)[(i + 1) * 3 + j]? = (ps.flatMap cellsO)[i * 3 + j]? := by
        intro j
        rw [List.getElem?_append_right (by simp [cellsO]; omega)]
        congr 1
        simp [cellsO]; omega
      exact ⟨(e 0).trans h0, (e 1).trans h1, (e 2).trans h2⟩
/-- What is the call's own lies in memory. -/
theorem OwnsO.sees {w : World} {base : Nat} {v : Value} {ps : List Ob} (h : OwnsO w base v ps) : SeesO w v ps := by
  have hl := h.1
  rcases h.2 with ⟨rfl, h0⟩ | ⟨g, cap, cur, rfl, hb, hg, hnc, hcm, hcs, htake⟩
  · exact Or.inl ⟨List.eq_nil_of_length_eq_zero h0, none, 0, rfl⟩
  · have hcell := h.cells (g := g) rfl
    refine Or.inr ⟨g, 0, cap, rfl, ?_, fun i hi => ?_⟩
    · rcases Nat.lt_or_ge g w.heap.size with hlt | hge
      · exact hlt
      · rw [Array.getElem?_eq_none hge] at hg; cases hg
    · obtain ⟨h0, h1, h2⟩ := cellsO_at ps i hi
      have e : ∀ j, (⟨g, 0, none⟩ : Addr).add j = ⟨g, j, none⟩ := fun j => by unfold Addr.add; split <;> simp_all
      have c0 := hcell _ _ h0
      have c1 := hcell _ _ h1
      have c2 := hcell _ _ h2
      rw [e] at c0 c1 c2
      exact ⟨by rw [Nat.zero_add]; exact c0, by rw [Nat.zero_add]; exact c1, by rw [Nat.zero_add]; exact c2⟩
theorem OwnsO.slice {w : World} {base : Nat} {v : Value} {ps : List Ob} (h : OwnsO w base v ps) : ∃ ao cap, v = .slice ao ps.length cap := by
  rcases h.2 with ⟨rfl, h0⟩ | ⟨g, cap, cur, rfl, _⟩
  · exact ⟨none, 0, by rw [h0]⟩
  · exact ⟨_, _, rfl⟩

/-- What readOps reads. -/
def rops (l : List UInt8) : Option (List Ob × Nat) := match Nm.rv l with
  | none => none
  | some (n, c) => if 16 < n then none else match Bt.many Bt.ro n (l.drop c) with
    | none => none
    | some (os, m) => some (os, c + m)

/-- Operations were read, or none. -/
def OpsRead (o : Option (List Ob × Nat)) (w : World) (e : Ending) (w' : World) : Prop :=
  Below w.heap.size w w' ∧ ((o = none ∧ e = .returned (.tuple #[.slice none 0 0, .int .i64 0, .bool false])) ∨ ∃ os k v, o = some (os, k) ∧ e = .returned (.tuple #[v, .int .i64 (k : Nat), .bool true]) ∧ OwnsO w' w.heap.size v os)

def contL (os : List Ob) (z : Nat) : Option (List Ob × Nat) → Option (List Ob × Nat)
  | none => none
  | some (os', m) => some (os ++ os', z + m)
theorem contL_end (os : List Ob) (z : Nat) (l : List UInt8) : contL os z (Bt.many Bt.ro 0 l) = some (os, z) := by simp [Bt.many, contL]
theorem contL_none (os : List Ob) (z j : Nat) (l : List UInt8) (h : Bt.ro l = none) : contL os z (Bt.many Bt.ro (j + 1) l) = none := by rw [Bt.many, h]; rfl
theorem contL_some (os : List Ob) (z j k : Nat) (o : Ob) (l : List UInt8) (h : Bt.ro (l.drop z) = some (o, k)) : contL os z (Bt.many Bt.ro (j + 1) (l.drop z)) = contL (os ++ [o]) (z + k) (Bt.many Bt.ro j (l.drop (z + k))) := by
  rw [Bt.many, h]
  simp only
  rw [List.drop_drop]
  cases Bt.many Bt.ro j (l.drop (z + k)) with
  | none => rfl
  | some x => simp [contL, Nat.add_assoc]

set_option maxHeartbeats 2000000 in
theorem readOps_any (s : ByteArray) (w : World) (hs : s.size ≤ 1000000000) :
    Calls Try.prog 31 #[.string s] w (OpsRead (rops s.data.toList) w) := by
  obtain ⟨i0, hi, hz0, hz1, hz2⟩ := info_parts info_op
  have HS := Lib.hid hs
  cases hv : Nm.rv s.data.toList with
  | none =>
    have HV : Hid (rvV s.data.toList = .tuple #[.int .u64 0, .int .i64 0, .bool false]) := Lib.hid (rvV_none hv)
    have HE : Hid (rops s.data.toList = none) := Lib.hid (by unfold rops; rw [hv])
    clear hv
    go_enter Try.func31, Try.ntmps31
    go_wp2_with fail
    refine (readVar_any _ _ (by have := HS.out; omega)).mono ?_
    rintro e w1 ⟨rfl, rfl⟩
    rw [HV.out]
    go_wp2_with fail
    go_ret3
    exact ⟨Below.refl _ _, Or.inl ⟨HE.out, rfl⟩⟩
  | some x =>
    obtain ⟨n, c⟩ := x
    have HV : Hid (rvV s.data.toList = .tuple #[.int .u64 n, .int .i64 c, .bool true]) := Lib.hid (rvV_some hv)
    obtain ⟨hc1, hc2, _, hn64⟩ := Nm.row_rv hv
    rw [length_list] at hc2
    by_cases h16 : 16 < n
    · have HE : Hid (rops s.data.toList = none) := Lib.hid (by unfold rops; rw [hv]; simp only; rw [if_pos h16])
      have h16i : (16 : Int) < n := by omega
      clear hv
      go_enter Try.func31, Try.ntmps31
      go_wp2_with fail
      refine (readVar_any _ _ (by have := HS.out; omega)).mono ?_
      rintro e w1 ⟨rfl, rfl⟩
      rw [HV.out]
      go_wp2_with fail
      go_ret3
      exact ⟨Below.refl _ _, Or.inl ⟨HE.out, rfl⟩⟩
    · have HE : Hid (rops s.data.toList = contL [] c (Bt.many Bt.ro (n - 0) (s.data.toList.drop c))) := Lib.hid (by
        unfold rops; rw [hv]; simp only; rw [if_neg h16]
        cases Bt.many Bt.ro n (s.data.toList.drop c) <;> rfl)
      have h16i : ¬ (16 : Int) < n := by omega
      clear hv
      generalize rops s.data.toList = R at *
      go_enter Try.func31, Try.ntmps31
      go_wp2_with fail
      refine (readVar_any _ _ (by have := HS.out; omega)).mono ?_
      rintro e w1 ⟨rfl, rfl⟩
      rw [HV.out]
      go_wp2_with fail
      go_loopw [2, 3, 22] (fun u z i wr => ∃ (k sz : Nat) (os : List Ob), k ≤ n ∧ i = .int .u64 k ∧ z = .int .i64 sz ∧ sz ≤ s.size ∧ os.length = k ∧ R = contL os sz (Bt.many Bt.ro (n - k) (s.data.toList.drop sz)) ∧ OwnsO wr w.heap.size u os ∧ Below w.heap.size w wr) (fun _ _ i _ => n - (intOf i).toNat)
      case atStart => exact ⟨0, c, [], Nat.zero_le _, rfl, rfl, hc2, rfl, HE.out, OwnsO.nil _ _, Below.refl _ _⟩
      case round =>
        obtain ⟨k, sz, os, hk, rfl, rfl, hsz, hol, hR, hown, hbel⟩ := hrel
        have HR := Lib.hid hR; clear hR HE
        have hszw := hbel.size
        by_cases hlt : k < n
        · obtain ⟨j, hj⟩ : ∃ j, n - k = j + 1 := ⟨n - k - 1, by omega⟩
          have HJ : Hid (n - (k + 1) = j) := Lib.hid (by omega)
          rw [hj] at HR
          clear hj
          have hszi : (sz : Int) ≤ s.size := by omega
          have HOP : Hid (∀ W, Calls Try.prog 42 #[.string (s.extract sz s.size)] W (Gives (roV (Bt.ro (s.data.toList.drop sz))) W)) := Lib.hid (fun W => by
            have h := readOp_any (s.extract sz s.size) W (by rw [ByteArray.size_extract]; omega)
            rw [Lib.extract_to_end] at h
            exact h)
          cases hro : Bt.ro (s.data.toList.drop sz) with
          | none =>
            have HN : Hid (R = none) := by rw [HR.out, contL_none _ _ _ _ hro]; exact Lib.hid rfl
            rw [hro] at HOP
            clear hro
            go_wp2_with fail
            refine (HOP.out _).mono ?_
            rintro e w1 ⟨rfl, hb1⟩
            unfold roV roN roT
            go_wp2_with fail
            go_ret3
            exact ⟨Below.alloc (hbel.trans (hb1.mono hszw)) (by have := hb1.size; omega) _, Or.inl ⟨HN.out, rfl⟩⟩
          | some x =>
            obtain ⟨o, m⟩ := x
            have HN : Hid (R = contL (os ++ [o]) (sz + m) (Bt.many Bt.ro j (s.data.toList.drop (sz + m)))) := by rw [HR.out, contL_some _ _ _ _ _ _ hro]; exact Lib.hid rfl
            have hm := (Bt.row_ro hro).2.1
            rw [List.length_drop, length_list] at hm
            have hmi : (sz : Int) + m ≤ s.size := by omega
            rw [hro] at HOP
            clear hro hm
            obtain ⟨key, val, gone⟩ := o
            unfold roV roT at HOP
            dsimp only at HOP
            go_wp2_with fail
            refine (HOP.out _).mono ?_
            rintro e w1 ⟨rfl, hb1⟩
            have hb2 := hbel.trans (hb1.mono hszw)
            have hsz1 := hb2.size
            have hraw : w1.ownsRow w.heap.size 24 3 u2 os.length (os.flatMap cellsO) := ownsRow_below hown hb1
            clear hown hbel hb1
            have HOL : Hid (os.length ≤ 16) := Lib.hid (by omega)
            go_wp2_with (at_builtin; go_must (refine wpList_append_own _ rfl _ _ 22 rfl w.heap.size 24 i0 _ 3 40 Try.underlying22 hi hz0 hz1 hz2 rfl (by decide) _ _ _ rfl ((hraw.alloc _).alloc _) ⟨w1.heap.size + 1, 0, none⟩ 1 1 [_, _, _] rfl rfl (World.news_of_block (cs := #[_, _, _]) (fr := (0, 0)) (heap_alloc2_new w1 _ _)) ?c2 ?c3 ?c4 ?c5 ?_))
            case c2 => intro u hu; simp at hu; rcases hu with hu | hu | hu <;> subst hu <;> rfl
            case c3 => have := HOL.out; unfold maxLen; omega
            case c4 => have := HOL.out; omega
            case c5 => simp; omega
            intro v2 w2 hown2 hgrow2 _
            have R1 : OwnsO w2 w.heap.size v2 (os ++ [⟨key, val, gone⟩]) ∧ Below w.heap.size w w2 :=
              ⟨OwnsO.snoc (p := ⟨key, val, gone⟩) (by rw [hol]; exact hown2), ((hb2.alloc hsz1 _).alloc (by simp; omega) _).grown hgrow2 (by simp; omega) (fun q hq => (hraw.lt q hq).1)⟩
            clear hown2 hgrow2 hraw
            go_wp2_with fail
            go_roundw
            case rel => exact ⟨k + 1, sz + m, _, by omega, by go_num, by go_num, by omega, by simp [hol], by rw [HJ.out]; exact HN.out, R1.1, R1.2⟩
            case measure => simp [intOf]; omega
        · obtain rfl : k = n := by omega
          have HN : Hid (R = some (os, sz)) := by rw [HR.out, Nat.sub_self, contL_end]; exact Lib.hid rfl
          go_wp2_with fail
          go_ret3
          exact ⟨hbel, Or.inr ⟨os, sz, _, HN.out, rfl, hown⟩⟩

end Go.Proofs.Ytohfjibhfbcanaa
