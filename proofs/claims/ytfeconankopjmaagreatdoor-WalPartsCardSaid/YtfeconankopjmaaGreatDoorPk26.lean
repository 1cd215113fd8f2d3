/- Texts on the program's own functions, several in one: BnBtF, BnBtG. -/
import Derived.Test.YtfeconankopjmaaGreatDoorPk23
import Derived.Test.YtfeconankopjmaaGreatDoorPk4
import Derived.Deep.AppendLies

/- The walks of batch.readOps and Decode. -/
namespace Go.Proofs.YtfeconankopjmaaGreatDoor.Bn
set_option maxRecDepth 100000
open Go.RowKit
set_option linter.unusedVariables false

theorem info_op : (Tryz.prog.info? 42).map (fun i => (i.zero, i.size, i.bytes)) = some (some (.agg #[.string ⟨#[]⟩, .string ⟨#[]⟩, .bool false]), 3, 40) := by kernel_rfl

def cellsO (p : Ob) : List Value := [.string p.key, .string p.val, .bool p.gone]
/-- A slice of operations that is the call's own, from a block on. -/
def OwnsO (w : World) (base : Nat) (v : Value) (ps : List Ob) : Prop := w.ownsRow base 42 3 v ps.length (ps.flatMap cellsO)
theorem OwnsO.nil (w : World) (base : Nat) : OwnsO w base (.slice none 0 0) [] := World.ownsRow_nil ..
theorem OwnsO.snoc {w' : World} {base : Nat} {v' : Value} {ps : List Ob} {p : Ob} (h : w'.ownsRow base 42 3 v' (ps.length + 1) (ps.flatMap cellsO ++ [.string p.key, .string p.val, .bool p.gone])) : OwnsO w' base v' (ps ++ [p]) := by
  unfold OwnsO
  rw [List.length_append, List.flatMap_append, List.flatMap_singleton]
  exact h
theorem cellsO_at (ps : List Ob) (i : Nat) (h : i < ps.length) : (ps.flatMap cellsO)[i * 3]? = some (.string (ps.getD i obd).key) ∧ (ps.flatMap cellsO)[i * 3 + 1]? = some (.string (ps.getD i obd).val) ∧ (ps.flatMap cellsO)[i * 3 + 2]? = some (.bool (ps.getD i obd).gone) := by
  induction ps generalizing i with
  | nil => simp at h
  | cons p ps ih =>
    cases i with
    | zero => simp [cellsO]
    | succ i =>
      have hi : i < ps.length := by simpa using h
      obtain ⟨h0, h1, h2⟩ := ih i hi
      rw [List.getD_cons_succ, List.flatMap_cons]
      have e : ∀ j, (cellsO p ++ ps.flatMap cellsO)[(i + 1) * 3 + j]? = (ps.flatMap cellsO)[i * 3 + j]? := by
        intro j
        rw [List.getElem?_append_right (by simp [cellsO]; omega)]
        congr 1
        simp [cellsO]; omega
      exact ⟨(e 0).trans h0, (e 1).trans h1, (e 2).trans h2⟩
/-- What is the call's own lies in memory. -/
theorem OwnsO.sees {w : World} {base : Nat} {v : Value} {ps : List Ob} (h : OwnsO w base v ps) : SeesO w v ps := by
  have hl := h.1
  rcases h.2 with ⟨rfl, h0⟩ | ⟨g, cap, cur, rfl, hb, hg, hnc, hcm, hcs, htake⟩
  · exact Or.inl ⟨List.eq_nil_of_length_eq_zero h0, none, 0, rfl⟩
  · have hcell := h.cells (g := g) rfl
    refine Or.inr ⟨g, 0, cap, rfl, ?_, fun i hi => ?_⟩
    · rcases Nat.lt_or_ge g w.heap.size with hlt | hge
      · exact hlt
      · rw [Array.getElem?_eq_none hge] at hg; cases hg
    · obtain ⟨h0, h1, h2⟩ := cellsO_at ps i hi
      have e : ∀ j, (⟨g, 0, none⟩ : Addr).add j = ⟨g, j, none⟩ := fun j => by unfold Addr.add; split <;> simp_all
      have c0 := hcell _ _ h0
      have c1 := hcell _ _ h1
      have c2 := hcell _ _ h2
      rw [e] at c0 c1 c2
      exact ⟨by rw [Nat.zero_add]; exact c0, by rw [Nat.zero_add]; exact c1, by rw [Nat.zero_add]; exact c2⟩
theorem OwnsO.slice {w : World} {base : Nat} {v : Value} {ps : List Ob} (h : OwnsO w base v ps) : ∃ ao cap, v = .slice ao ps.length cap := by
  rcases h.2 with ⟨rfl, h0⟩ | ⟨g, cap, cur, rfl, _⟩
  · exact ⟨none, 0, by rw [h0]⟩
  · exact ⟨_, _, rfl⟩

/-- What readOps reads. -/
def rops (l : List UInt8) : Option (List Ob × Nat) := match Nm.rv l with
  | none => none
  | some (n, c) => if 16 < n then none else match Bt.many Bt.ro n (l.drop c) with
    | none => none
    | some (os, m) => some (os, c + m)

/-- Operations were read, or none. -/
def OpsRead (o : Option (List Ob × Nat)) (w : World) (e : Ending) (w' : World) : Prop :=
  Below w.heap.size w w' ∧ ((o = none ∧ e = .returned (.tuple #[.slice none 0 0, .int .i64 0, .bool false])) ∨ ∃ os k v, o = some (os, k) ∧ e = .returned (.tuple #[v, .int .i64 (k : Nat), .bool true]) ∧ OwnsO w' w.heap.size v os)

def contL (os : List Ob) (z : Nat) : Option (List Ob × Nat) → Option (List Ob × Nat)
  | none => none
  | some (os', m) => some (os ++ os', z + m)
theorem contL_end (os : List Ob) (z : Nat) (l : List UInt8) : contL os z (Bt.many Bt.ro 0 l) = some (os, z) := by simp [Bt.many, contL]
theorem contL_none (os : List Ob) (z j : Nat) (l : List UInt8) (h : Bt.ro l = none) : contL os z (Bt.many Bt.ro (j + 1) l) = none := by rw [Bt.many, h]; rfl
theorem contL_some (os : List Ob) (z j k : Nat) (o : Ob) (l : List UInt8) (h : Bt.ro (l.drop z) = some (o, k)) : contL os z (Bt.many Bt.ro (j + 1) (l.drop z)) = contL (os ++ [o]) (z + k) (Bt.many Bt.ro j (l.drop (z + k))) := by
  rw [Bt.many, h]
  simp only
  rw [List.drop_drop]
  cases Bt.many Bt.ro j (l.drop (z + k)) with
  | none => rfl
  | some x => simp [contL, Nat.add_assoc]

set_option maxHeartbeats 2000000 in
theorem readOps_any (s : ByteArray) (w : World) (hs : s.size ≤ 1000000000) :
    Calls Tryz.prog 145 #[.string s] w (OpsRead (rops s.data.toList) w) := by
  obtain ⟨i0, hi, hz0, hz1, hz2⟩ := info_parts info_op
  have HS := Lib.hid hs
  cases hv : Nm.rv s.data.toList with
  | none =>
    have HV : Hid (rvV s.data.toList = .tuple #[.int .u64 0, .int .i64 0, .bool false]) := Lib.hid (rvV_none hv)
    have HE : Hid (rops s.data.toList = none) := Lib.hid (by unfold rops; rw [hv])
    clear hv
    go_enter Tryz.func145, Tryz.ntmps145
    go_wp2_with fail
    refine (readVar_any _ _ (by have := HS.out; omega)).mono ?_
    rintro e w1 ⟨rfl, rfl⟩
    rw [HV.out]
    go_wp2_with fail
    go_ret3
    exact ⟨Below.refl _ _, Or.inl ⟨HE.out, rfl⟩⟩
  | some x =>
    obtain ⟨n, c⟩ := x
    have HV : Hid (rvV s.data.toList = .tuple #[.int .u64 n, .int .i64 c, .bool true]) := Lib.hid (rvV_some hv)
    obtain ⟨hc1, hc2, _, hn64⟩ := Nm.row_rv hv
    rw [length_list] at hc2
    by_cases h16 : 16 < n
    · have HE : Hid (rops s.data.toList = none) := Lib.hid (by unfold rops; rw [hv]; simp only; rw [if_pos h16])
      have h16i : (16 : Int) < n := by omega
      clear hv
      go_enter Tryz.func145, Tryz.ntmps145
      go_wp2_with fail
      refine (readVar_any _ _ (by have := HS.out; omega)).mono ?_
      rintro e w1 ⟨rfl, rfl⟩
      rw [HV.out]
      go_wp2_with fail
      go_ret3
      exact ⟨Below.refl _ _, Or.inl ⟨HE.out, rfl⟩⟩
    · have HE : Hid (rops s.data.toList = contL [] c (Bt.many Bt.ro (n - 0) (s.data.toList.drop c))) := Lib.hid (by
        unfold rops; rw [hv]; simp only; rw [if_neg h16]
        cases Bt.many Bt.ro n (s.data.toList.drop c) <;> rfl)
      have h16i : ¬ (16 : Int) < n := by omega
      clear hv
      generalize rops s.data.toList = R at *
      go_enter Tryz.func145, Tryz.ntmps145
      go_wp2_with fail
      refine (readVar_any _ _ (by have := HS.out; omega)).mono ?_
      rintro e w1 ⟨rfl, rfl⟩
      rw [HV.out]
      go_wp2_with fail
      go_loopw [2, 3, 22] (fun u z i wr => ∃ (k sz : Nat) (os : List Ob), k ≤ n ∧ i = .int .u64 k ∧ z = .int .i64 sz ∧ sz ≤ s.size ∧ os.length = k ∧ R = contL os sz (Bt.many Bt.ro (n - k) (s.data.toList.drop sz)) ∧ OwnsO wr w.heap.size u os ∧ Below w.heap.size w wr) (fun _ _ i _ => n - (intOf i).toNat)
      case atStart => exact ⟨0, c, [], Nat.zero_le _, rfl, rfl, hc2, rfl, HE.out, OwnsO.nil _ _, Below.refl _ _⟩
      case round =>
        obtain ⟨k, sz, os, hk, rfl, rfl, hsz, hol, hR, hown, hbel⟩ := hrel
        have HR := Lib.hid hR; clear hR HE
        have hszw := hbel.size
        by_cases hlt : k < n
        · obtain ⟨j, hj⟩ : ∃ j, n - k = j + 1 := ⟨n - k - 1, by omega⟩
          have HJ : Hid (n - (k + 1) = j) := Lib.hid (by omega)
          rw [hj] at HR
          clear hj
          have hszi : (sz : Int) ≤ s.size := by omega
          have HOP : Hid (∀ W, Calls Tryz.prog 186 #[.string (s.extract sz s.size)] W (Gives (roV (Bt.ro (s.data.toList.drop sz))) W)) := Lib.hid (fun W => by
            have h := readOp_any (s.extract sz s.size) W (by rw [ByteArray.size_extract]; omega)
            rw [Lib.extract_to_end] at h
            exact h)
          cases hro : Bt.ro (s.data.toList.drop sz) with
          | none =>
            have HN : Hid (R = none) := by rw [HR.out, contL_none _ _ _ _ hro]; exact Lib.hid rfl
            rw [hro] at HOP
            clear hro
            go_wp2_with fail
            refine (HOP.out _).mono ?_
            rintro e w1 ⟨rfl, hb1⟩
            unfold roV roN roT
            go_wp2_with fail
            go_ret3
            exact ⟨Below.alloc (hbel.trans (hb1.mono hszw)) (by have := hb1.size; omega) _, Or.inl ⟨HN.out, rfl⟩⟩
          | some x =>
            obtain ⟨o, m⟩ := x
            have HN : Hid (R = contL (os ++ [o]) (sz + m) (Bt.many Bt.ro j (s.data.toList.drop (sz + m)))) := by rw [HR.out, contL_some _ _ _ _ _ _ hro]; exact Lib.hid rfl
            have hm := (Bt.row_ro hro).2.1
            rw [List.length_drop, length_list] at hm
            have hmi : (sz : Int) + m ≤ s.size := by omega
            rw [hro] at HOP
            clear hro hm
            obtain ⟨key, val, gone⟩ := o
            unfold roV roT at HOP
            dsimp only at HOP
            go_wp2_with fail
            refine (HOP.out _).mono ?_
            rintro e w1 ⟨rfl, hb1⟩
            have hb2 := hbel.trans (hb1.mono hszw)
            have hsz1 := hb2.size
            have hraw : w1.ownsRow w.heap.size 42 3 u2 os.length (os.flatMap cellsO) := ownsRow_below hown hb1
            clear hown hbel hb1
            have HOL : Hid (os.length ≤ 16) := Lib.hid (by omega)
            go_wp2_with (at_builtin; go_must (refine wpList_append_own _ rfl _ _ 30 rfl w.heap.size 42 i0 _ 3 40 Tryz.underlying30 hi hz0 hz1 hz2 rfl (by decide) _ _ _ rfl ((hraw.alloc _).alloc _) ⟨w1.heap.size + 1, 0, none⟩ 1 1 [_, _, _] rfl rfl (World.news_of_block (cs := #[_, _, _]) (fr := (0, 0)) (heap_alloc2_new w1 _ _)) ?c2 ?c3 ?c4 ?c5 ?_))
            case c2 => intro u hu; simp at hu; rcases hu with hu | hu | hu <;> subst hu <;> rfl
            case c3 => have := HOL.out; unfold maxLen; omega
            case c4 => have := HOL.out; omega
            case c5 => simp; omega
            intro v2 w2 hown2 hgrow2 _
            have R1 : OwnsO w2 w.heap.size v2 (os ++ [⟨key, val, gone⟩]) ∧ Below w.heap.size w w2 :=
              ⟨OwnsO.snoc (p := ⟨key, val, gone⟩) (by rw [hol]; exact hown2), ((hb2.alloc hsz1 _).alloc (by simp; omega) _).grown hgrow2 (by simp; omega) (fun q hq => (hraw.lt q hq).1)⟩
            clear hown2 hgrow2 hraw
            go_wp2_with fail
            go_roundw
            case rel => exact ⟨k + 1, sz + m, _, by omega, by go_num, by go_num, by omega, by simp [hol], by rw [HJ.out]; exact HN.out, R1.1, R1.2⟩
            case measure => simp [intOf]; omega
        · obtain rfl : k = n := by omega
          have HN : Hid (R = some (os, sz)) := by rw [HR.out, Nat.sub_self, contL_end]; exact Lib.hid rfl
          go_wp2_with fail
          go_ret3
          exact ⟨hbel, Or.inr ⟨os, sz, _, HN.out, rfl, hown⟩⟩

end Go.Proofs.YtfeconankopjmaaGreatDoor.Bn

/- The walk of batch.Decode. -/
namespace Go.Proofs.YtfeconankopjmaaGreatDoor.Bn
set_option maxRecDepth 100000
open Go.RowKit
set_option linter.unusedVariables false

theorem decl_of (l : List UInt8) : Bt.decl l = match Nm.rv l with
    | none => none
    | some (seq, a) => match rops (l.drop a) with
      | none => none
      | some (os, k) => if a + k = l.length ∧ Bt.chk seq os = 0 then some (seq, os) else none := by
  unfold Bt.decl Bt.rdl rops
  cases Nm.rv l with
  | none => rfl
  | some x =>
    obtain ⟨seq, a⟩ := x
    simp only
    cases Nm.rv (l.drop a) with
    | none => rfl
    | some y =>
      obtain ⟨n, c⟩ := y
      simp only
      by_cases h16 : 16 < n
      · simp only [if_pos h16]
      · simp only [if_neg h16, List.drop_drop]
        cases Bt.many Bt.ro n (l.drop (a + c)) with
        | none => rfl
        | some z =>
          obtain ⟨os, m⟩ := z
          simp only [Nat.add_assoc]

theorem rops_le {l : List UInt8} {os : List Ob} {k : Nat} (h : rops l = some (os, k)) : k ≤ l.length := by
  unfold rops at h
  cases hv : Nm.rv l with
  | none => rw [hv] at h; cases h
  | some x =>
    obtain ⟨n, c⟩ := x
    rw [hv] at h
    simp only at h
    split at h
    · cases h
    · cases hm : Bt.many Bt.ro n (l.drop c) with
      | none => rw [hm] at h; cases h
      | some y =>
        obtain ⟨os', m⟩ := y
        rw [hm] at h
        simp only [Option.some.injEq, Prod.mk.injEq] at h
        have h1 := (Nm.row_rv hv).2.1
        have h2 := (Bt.rows_many _ _ _ _ hm).2.1
        rw [List.length_drop] at h2
        omega
theorem owns_mono {w : World} {base base' : Nat} {v : Value} {ps : List Ob} (h : OwnsO w base v ps) (hb : base' ≤ base) : OwnsO w base' v ps :=
  ⟨h.1, h.2.imp id fun ⟨g, cap, cur, e, hg, r⟩ => ⟨g, cap, cur, e, Nat.le_trans hb hg, r⟩⟩
theorem owns_set {w : World} {base : Nat} {v : Value} {ps : List Ob} (h : OwnsO w base v ps) (b o : Nat) (x : Value) (hb : b < base) : OwnsO (w.setCell ⟨b, o, none⟩ x) base v ps := by
  have hne : v.ownBlock ≠ some b := fun e => by have := (World.ownsRow.lt h _ e).1; omega
  exact World.ownsRow.kept h (row := some b) ⟨rfl, rfl, rfl, by simp [World.setCell], fun k _ hk => Below.heap_setCell _ _ _ _ (fun e => hk (by simp [e]))⟩ (Or.inr hne)

/-- A batch was read, or none. -/
def DecRead (o : Option (Nat × List Ob)) (w : World) (e : Ending) (w' : World) : Prop :=
  Below w.heap.size w w' ∧ ((o = none ∧ e = .returned (.tuple #[batV 0 none 0 0, .bool false])) ∨ ∃ seq os ao cap, o = some (seq, os) ∧ e = .returned (.tuple #[batV seq ao os.length cap, .bool true]) ∧ OwnsO w' w.heap.size (.slice ao os.length cap) os)

def noBat : Value := .tuple #[batV 0 none 0 0, .bool false]

set_option maxHeartbeats 2000000 in
theorem decode_none (s : ByteArray) (w : World) (hs : s.size ≤ 1000000000) (hv : Nm.rv s.data.toList = none) :
    Calls Tryz.prog 101 #[.string s] w (DecRead none w) := by
  have HV : Hid (rvV s.data.toList = .tuple #[.int .u64 0, .int .i64 0, .bool false]) := Lib.hid (rvV_none hv)
  have HS := Lib.hid hs
  clear hv hs
  go_enter Tryz.func101, Tryz.ntmps101
  go_wp2_with fail
  refine (readVar_any _ _ (by have := HS.out; omega)).mono ?_
  rintro e w1 ⟨rfl, rfl⟩
  rw [HV.out]
  go_wp2_with fail
  refine bodyPost_ret (v := noBat) (by simp [results, Tryz.results101, go_sem, noBat, batV]) rfl ⟨(Below.refl _ _).alloc (Nat.le_refl _) _, Or.inl ⟨rfl, rfl⟩⟩

set_option maxHeartbeats 2000000 in
theorem decode_some (s : ByteArray) (seq a : Nat) (w : World) (hs : s.size ≤ 1000000000) (hv : Nm.rv s.data.toList = some (seq, a)) :
    Calls Tryz.prog 101 #[.string s] w (DecRead (Bt.decl s.data.toList) w) := by
  have HV : Hid (rvV s.data.toList = .tuple #[.int .u64 seq, .int .i64 a, .bool true]) := Lib.hid (rvV_some hv)
  have HS := Lib.hid hs
  obtain ⟨ha1, ha2, _, hseq⟩ := Nm.row_rv hv
  rw [length_list] at ha2
  have hai : (a : Int) ≤ s.size := by omega
  have HD : Hid (Bt.decl s.data.toList = match rops (s.data.toList.drop a) with
      | none => none
      | some (os, k) => if a + k = s.size ∧ Bt.chk seq os = 0 then some (seq, os) else none) := by
    refine Lib.hid ?_
    rw [decl_of, hv, length_list]
  have HR : Hid (∀ W, Calls Tryz.prog 145 #[.string (s.extract a s.size)] W (OpsRead (rops (s.data.toList.drop a)) W)) := Lib.hid (fun W => by
    have h := readOps_any (s.extract a s.size) W (by rw [ByteArray.size_extract]; omega)
    rw [Lib.extract_to_end] at h
    exact h)
  have HKB : Hid (∀ os k, rops (s.data.toList.drop a) = some (os, k) → (k : Int) ≤ 1000000000) := Lib.hid (fun os k h => by
    have := rops_le h
    rw [List.length_drop, length_list] at this
    omega)
  clear hv
  generalize Bt.decl s.data.toList = D at *
  generalize rops (s.data.toList.drop a) = R at *
  go_enter Tryz.func101, Tryz.ntmps101
  go_wp2_with fail
  refine (readVar_any _ _ (by have := HS.out; omega)).mono ?_
  rintro e w1 ⟨rfl, rfl⟩
  rw [HV.out]
  go_wp2_with fail
  refine (HR.out _).mono ?_
  rintro e w2 ⟨hb2, hcase⟩
  have hz2 : w.heap.size < w2.heap.size := by have := hb2.size; simp at this; omega
  obtain ⟨hcc, hff⟩ := bcell hb2
  have HB2 : Hid (Below w.heap.size w w2) := Lib.hid (Below.next ((Below.refl _ _).alloc (Nat.le_refl _) _) hb2)
  clear hb2
  rcases hcase with ⟨rfl, rfl⟩ | ⟨os, k, v, rfl, rfl, hown⟩
  · have HN : Hid (D = none) := by rw [HD.out]; exact Lib.hid rfl
    go_wp2_with fail
    refine bodyPost_ret (v := noBat) (by simp [results, Tryz.results101, go_sem, noBat, batV, hcc, hz2]) rfl ⟨?_, Or.inl ⟨HN.out, rfl⟩⟩
    exact Below.next_alloc ((HB2.out.setCell (Nat.le_refl _) _).setCell (Nat.le_refl _) _) _
  · obtain ⟨ao, cap, rfl⟩ := hown.slice
    have hki := HKB.out os k rfl
    have HO := Lib.hid hown
    have HCK : Hid (∀ W, Below w2.heap.size w2 W → Calls Tryz.prog 36 #[.agg #[.int .u64 seq, .slice ao os.length cap]] W (Gives (.int .i64 (Bt.chk seq os)) W)) := Lib.hid (fun W hb => check_any seq ao os.length cap os W (hown.sees.below hb) hseq)
    clear hown
    by_cases hlen : a + k = s.size
    · by_cases hck : Bt.chk seq os = 0
      · have HN : Hid (D = some (seq, os)) := by rw [HD.out]; simp only; rw [if_pos ⟨hlen, hck⟩]; exact Lib.hid rfl
        rw [hck] at HCK
        have hlen' : (a : Int) + k = s.size := by omega
        clear hck hlen
        go_wp2_with fail
        refine (HCK.out _ ((Below.refl _ _).alloc (Nat.le_refl _) _)).mono ?_
        rintro e w3 ⟨rfl, hb3⟩
        obtain ⟨hc3, hf3⟩ := bcell hb3
        have d0 : w3.cell? ⟨w.heap.size, 0, none⟩ = some (.int .u64 0) := by rw [hc3 _ _ (by simp; omega), World.cell?_alloc_past _ _ _ hz2, hcc _ _ (by simp), World.cell?_alloc_new]; rfl
        have d1 : w3.cell? ⟨w.heap.size, 1, none⟩ = some (.slice none 0 0) := by rw [hc3 _ _ (by simp; omega), World.cell?_alloc_past _ _ _ hz2, hcc _ _ (by simp), World.cell?_alloc_new]; rfl
        have hz3 : w2.heap.size < w3.heap.size := by have := hb3.size; simp at this; omega
        have HO3 : Hid (OwnsO w3 (w.heap.size + 1) (.slice ao os.length cap) os) := by
          have h := HO.out
          rw [World.size_alloc] at h
          exact Lib.hid (ownsRow_below (ownsRow_below h ((Below.refl _ _).alloc (Nat.le_refl _) _)) hb3)
        have HB3 : Hid (Below w.heap.size w w3) := Lib.hid (Below.next (Below.next_alloc HB2.out _) hb3)
        clear hb3
        go_wp2_with fail
        refine bodyPost_ret (v := .tuple #[batV seq ao os.length cap, .bool true]) (by simp [results, Tryz.results101, go_sem, batV, d0, d1]) rfl ⟨?_, Or.inr ⟨seq, os, ao, cap, HN.out, rfl, ?_⟩⟩
        · exact (HB3.out.setCell (Nat.le_refl _) _).setCell (Nat.le_refl _) _
        · exact owns_mono (owns_set (owns_set HO3.out _ _ _ (Nat.lt_succ_self _)) _ _ _ (Nat.lt_succ_self _)) (Nat.le_succ _)
      · have HN : Hid (D = none) := by rw [HD.out]; simp only; rw [if_neg (fun h => hck h.2)]; exact Lib.hid rfl
        have hlen' : (a : Int) + k = s.size := by omega
        generalize Bt.chk seq os = c at *
        have hck' : ¬ ((c : Int) = 0) := by omega
        clear hck hlen
        go_wp2_with fail
        refine (HCK.out _ ((Below.refl _ _).alloc (Nat.le_refl _) _)).mono ?_
        rintro e w3 ⟨rfl, hb3⟩
        obtain ⟨hc3, hf3⟩ := bcell hb3
        have d0 : w3.cell? ⟨w.heap.size, 0, none⟩ = some (.int .u64 0) := by rw [hc3 _ _ (by simp; omega), World.cell?_alloc_past _ _ _ hz2, hcc _ _ (by simp), World.cell?_alloc_new]; rfl
        have d1 : w3.cell? ⟨w.heap.size, 1, none⟩ = some (.slice none 0 0) := by rw [hc3 _ _ (by simp; omega), World.cell?_alloc_past _ _ _ hz2, hcc _ _ (by simp), World.cell?_alloc_new]; rfl
        have hz3 : w2.heap.size < w3.heap.size := by have := hb3.size; simp at this; omega
        have HB3 : Hid (Below w.heap.size w w3) := Lib.hid (Below.next (Below.next_alloc HB2.out _) hb3)
        clear hb3
        go_wp2_with fail
        refine bodyPost_ret (v := noBat) (by simp [results, Tryz.results101, go_sem, noBat, batV, d0, d1]) rfl ⟨?_, Or.inl ⟨HN.out, rfl⟩⟩
        exact (HB3.out.setCell (Nat.le_refl _) _).setCell (Nat.le_refl _) _
    · have HN : Hid (D = none) := by rw [HD.out]; simp only; rw [if_neg (fun h => hlen h.1)]; exact Lib.hid rfl
      have hlen' : ¬ ((a : Int) + k = s.size) := by omega
      go_wp2_with fail
      refine bodyPost_ret (v := noBat) (by simp [results, Tryz.results101, go_sem, noBat, batV, hcc, hz2]) rfl ⟨?_, Or.inl ⟨HN.out, rfl⟩⟩
      exact Below.next_alloc ((HB2.out.setCell (Nat.le_refl _) _).setCell (Nat.le_refl _) _) _

/-- Decode, of every text of at most 10^9 bytes. -/
theorem decode_any (s : ByteArray) (w : World) (hs : s.size ≤ 1000000000) :
    Calls Tryz.prog 101 #[.string s] w (DecRead (Bt.decl s.data.toList) w) := by
  cases h : Nm.rv s.data.toList with
  | none =>
    have e : Bt.decl s.data.toList = none := by rw [decl_of, h]
    rw [e]
    exact decode_none s w hs h
  | some x => exact decode_some s x.1 x.2 w hs h

end Go.Proofs.YtfeconankopjmaaGreatDoor.Bn
