/- The walk of batch.Decode. -/
import Derived.Test.YtohfjibhfbcanaaBtF
namespace Go.Proofs.Ytohfjibhfbcanaa
open Go.RowKit
set_option linter.unusedVariables false

theorem decl_of (l : List UInt8) : Bt.decl l = match Nm.rv l with
    | none => none
    | some (seq, a) => match rops (l.drop a) with
      | none => none
      | some (os, k) => if a + k = l.length ∧ Bt.chk seq os = 0 then some (seq, os) else none := by
  unfold Bt.decl Bt.rdl rops
  cases Nm.rv l with
  | none => rfl
  | some x =>
    obtain ⟨seq, a⟩ := x
    simp only
    cases Nm.rv (l.drop a) with
    | none => rfl
    | some y =>
      obtain ⟨n, c⟩ := y
      simp only
      by_cases h16 : 16 < n
      · simp only [if_pos h16]
      · simp only [if_neg h16, List.drop_drop]
        cases Bt.many Bt.ro n (l.drop (a + c)) with
        | none => rfl
        | some z =>
          obtain ⟨os, m⟩ := z
          simp only [Nat.add_assoc]

theorem rops_le {l : List UInt8} {os : List Ob} {k : Nat} (h : rops l = some (os, k)) : k ≤ l.length := by
  unfold rops at h
  cases hv : Nm.rv l with
  | none => rw [hv] at h; cases h
  | some x =>
    obtain ⟨n, c⟩ := x
    rw [hv] at h
    simp only at h
    split at h
    · cases h
    · cases hm : Bt.many Bt.ro n (l.drop c) with
      | none => rw [hm] at h; cases h
      | some y =>
        obtain ⟨os', m⟩ := y
        rw [hm] at h
        simp only [Option.some.injEq, Prod.mk.injEq] at h
        have h1 := (Nm.row_rv hv).2.1
        have h2 := (Bt.rows_many _ _ _ _ hm).2.1
        rw [List.length_drop] at h2
        omega
theorem owns_mono {w : World} {base base' : Nat} {v : Value} {ps : List Ob} (h : OwnsO w base v ps) (hb : base' ≤ base) : OwnsO w base' v ps :=
  ⟨h.1, h.2.imp id fun ⟨g, cap, cur, e, hg, r⟩ => ⟨g, cap, cur, e, Nat.le_trans hb hg, r⟩⟩
theorem owns_set {w : World} {base : Nat} {v : Value} {ps : List Ob} (h : OwnsO w base v ps) (b o : Nat) (x : Value) (hb : b < base) : OwnsO (w.setCell ⟨b, o, none⟩ x) base v ps := by
  have hne : v.ownBlock ≠ some b := fun e => by have := (World.ownsRow.lt h _ e).1; omega
  exact World.ownsRow.kept h (row := some b) ⟨rfl, rfl, rfl, by simp [World.setCell], fun k _ hk => Below.heap_setCell _ _ _ _ (fun e => hk (by simp [e]))⟩ (Or.inr hne)

/-- A batch was read, or none. -/
def DecRead (o : Option (Nat × List Ob)) (w : World) (e : Ending) (w' : World) : Prop :=
  Below w.heap.size w w' ∧ ((o = none ∧ e = .returned (.tuple #[batV 0 none 0 0, .bool false])) ∨ ∃ seq os ao cap, o = some (seq, os) ∧ e = .returned (.tuple #[batV seq ao os.length cap, .bool true]) ∧ OwnsO w' w.heap.size (.slice ao os.length cap) os)

def noBat : Value := .tuple #[batV 0 none 0 0, .bool false]

set_option maxHeartbeats 2000000 in
theorem decode_none (s : ByteArray) (w : World) (hs : s.size ≤ 1000000000) (hv : Nm.rv s.data.toList = none) :
    Calls Try.prog 12 #[.string s] w (DecRead none w) := by
  have HV : Hid (rvV s.data.toList = .tuple #[.int .u64 0, .int .i64 0, .bool false]) := Lib.hid (rvV_none hv)
  have HS := Lib.hid hs
  clear hv hs
  go_enter Try.func12, Try.ntmps12
  go_wp2_with fail
  refine (readVar_any _ _ (by have := HS.out; omega)).mono ?_
  rintro e w1 ⟨rfl, rfl⟩
  rw [HV.out]
  go_wp2_with fail
  refine bodyPost_ret (v := noBat) (by simp [results, Try.results12, go_sem, noBat, batV]) rfl ⟨(Below.refl _ _).alloc (Nat.le_refl _) _, Or.inl ⟨rfl, rfl⟩⟩

set_option maxHeartbeats 2000000 in
theorem decode_some (s : ByteArray) (seq a : Nat) (w : World) (hs : s.size ≤ 1000000000) (hv : Nm.rv s.data.toList = some (seq, a)) :
    Calls Try.prog 12 #[.string s] w (DecRead (Bt.decl s.data.toList) w) := by
  have HV : Hid (rvV s.data.toList = .tuple #[.int .u64 seq, .int .i64 a, .bool true]) := Lib.hid (rvV_some hv)
  have HS := Lib.hid hs
  obtain ⟨ha1, ha2, _, hseq⟩ := Nm.row_rv hv
  rw [length_list] at ha2
  have hai : (a : Int) ≤ s.size := by omega
  have HD : Hid (Bt.decl s.data.toList = match rops (s.data.toList.drop a) with
      | none => none
      | some (os, k) => if a + k = s.size ∧ Bt.chk seq os = 0 then some (seq, os) else none) := by
    refine Lib.hid ?_
    rw [decl_of, hv, length_list]
  have HR : Hid (∀ W, Calls Try.prog 31 #[.string (s.extract a s.size)] W (OpsRead (rops (s.data.toList.drop a)) W)) := Lib.hid (fun W => by
    have h := readOps_any (s.extract a s.size) W (by rw [ByteArray.size_extract]; omega)
    rw [Lib.extract_to_end] at h
    exact h)
  have HKB : Hid (∀ os k, rops (s.data.toList.drop a) = some (os, k) → (k : Int) ≤ 1000000000) := Lib.hid (fun os k h => by
    have := rops_le h
    rw [List.length_drop, length_list] at this
    omega)
  clear hv
  generalize Bt.decl s.data.toList = D at *
  generalize rops (s.data.toList.drop a) = R at *
  go_enter Try.func12, Try.ntmps12
  go_wp2_with fail
  refine (readVar_any _ _ (by have := HS.out; omega)).mono ?_
  rintro e w1 ⟨rfl, rfl⟩
  rw [HV.out]
  go_wp2_with fail
  refine (HR.out _).mono ?_
  rintro e w2 ⟨hb2, hcase⟩
  have hz2 : w.heap.size < w2.heap.size := by have := hb2.size; simp at this; omega
  obtain ⟨hcc, hff⟩ := bcell hb2
  have HB2 : Hid (Below w.heap.size w w2) := Lib.hid (Below.next ((Below.refl _ _).alloc (Nat.le_refl _) _) hb2)
  clear hb2
  rcases hcase with ⟨rfl, rfl⟩ | ⟨os, k, v, rfl, rfl, hown⟩
  · have HN : Hid (D = none) := by rw [HD.out]; exact Lib.hid rfl
    go_wp2_with fail
    refine bodyPost_ret (v := noBat) (by simp [results, Try.results12, go_sem, noBat, batV, hcc, hz2]) rfl ⟨?_, Or.inl ⟨HN.out, rfl⟩⟩
    exact Below.next_alloc ((HB2.out.setCell (Nat.le_refl _) _).setCell (Nat.le_refl _) _) _
  · obtain ⟨ao, cap, rfl⟩ := hown.slice
    have hki := HKB.out os k rfl
    have HO := Lib.hid hown
    have HCK : Hid (∀ W, Below w2.heap.size w2 W → Calls Try.prog 10 #[.agg #[.int .u64 seq, .slice ao os.length cap]] W (Gives (.int .i64 (Bt.chk seq os)) W)) := Lib.hid (fun W hb => check_any seq ao os.length cap os W (hown.sees.below hb) hseq)
    clear hown
    by_cases hlen : a + k = s.size
    · by_cases hck : Bt.chk seq os = 0
      · have HN : Hid (D = some (seq, os)) := by rw [HD.out]; simp only; rw [if_pos ⟨hlen, hck⟩]; exact Lib.hid rfl
        rw [hck] at HCK
        have hlen' : (a : Int) + k = s.size := by omega
        clear hck hlen
        go_wp2_with fail
        refine (HCK.out _ ((Below.refl _ _).alloc (Nat.le_refl _) _)).mono ?_
        rintro e w3 ⟨rfl, hb3⟩
        obtain ⟨hc3, hf3⟩ := bcell hb3
        have d0 : w3.cell? ⟨w.heap.size, 0, none⟩ = some (.int .u64 0) := by rw [hc3 _ _ (by simp; omega), World.cell?_alloc_past _ _ _ hz2, hcc _ _ (by simp), World.cell?_alloc_new]; rfl
        have d1 : w3.cell? ⟨w.heap.size, 1, none⟩ = some (.slice none 0 0) := by rw [hc3 _ _ (by simp; omega), World.cell?_alloc_past _ _ _ hz2, hcc _ _ (by simp), World.cell?_alloc_new]; rfl
        have hz3 : w2.heap.size < w3.heap.size := by have := hb3.size; simp at this; omega
        have HO3 : Hid (OwnsO w3 (w.heap.size + 1) (.slice ao os.length cap) os) := by
          have h := HO.out
          rw [World.size_alloc] at h
          exact Lib.hid (ownsRow_below (ownsRow_below h ((Below.refl _ _).alloc (Nat.le_refl _) _)) hb3)
        have HB3 : Hid (Below w.heap.size w w3) := Lib.hid (Below.next (Below.next_alloc HB2.out _) hb3)
        clear hb3
        go_wp2_with fail
        refine bodyPost_ret (v := .tuple #[batV seq ao os.length cap, .bool true]) (by simp [results, Try.results12, go_sem, batV, d0, d1]) rfl ⟨?_, Or.inr ⟨seq, os, ao, cap, HN.out, rfl, ?_⟩⟩
        · exact (HB3.out.setCell (Nat.le_refl _) _).setCell (Nat.le_refl _) _
        · exact owns_mono (owns_set (owns_set HO3.out _ _ _ (Nat.lt_succ_self _)) _ _ _ (Nat.lt_succ_self _)) (Nat.le_succ _)
      · have HN : Hid (D = none) := by rw [HD.out]; simp only; rw [if_neg (fun h => hck h.2)]; exact Lib.hid rfl
        have hlen' : (a : Int) + k = s.size := by omega
        generalize Bt.chk seq os = c at *
        have hck' : ¬ ((c : Int) = 0) := by omega
        clear hck hlen
        go_wp2_with fail
        refine (HCK.out _ ((Below.refl _ _).alloc (Nat.le_refl _) _)).mono ?_
        rintro e w3 ⟨rfl, hb3⟩
        obtain ⟨hc3, hf3⟩ := bcell hb3
        have d0 : w3.cell? ⟨w.heap.size, 0, none⟩ = some (.int .u64 0) := by rw [hc3 _ _ (by simp; omega), World.cell?_alloc_past _ _ _ hz2, hcc _ _ (by simp), World.cell?_alloc_new]; rfl
        have d1 : w3.cell? ⟨w.heap.size, 1, none⟩ = some (.slice none 0 0) := by rw [hc3 _ _ (by simp; omega), World.cell?_alloc_past _ _ _ hz2, hcc _ _ (by simp), World.cell?_alloc_new]; rfl
        have hz3 : w2.heap.size < w3.heap.size := by have := hb3.size; simp at this; omega
        have HB3 : Hid (Below w.heap.size w w3) := Lib.hid (Below.next (Below.next_alloc HB2.out _) hb3)
        clear hb3
        go_wp2_with fail
        refine bodyPost_ret (v := noBat) (by simp [results, Try.results12, go_sem, noBat, batV, d0, d1]) rfl ⟨?_, Or.inl ⟨HN.out, rfl⟩⟩
        exact (HB3.out.setCell (Nat.le_refl _) _).setCell (Nat.le_refl _) _
    · have HN : Hid (D = none) := by rw [HD.out]; simp only; rw [if_neg (fun h => hlen h.1)]; exact Lib.hid rfl
      have hlen' : ¬ ((a : Int) + k = s.size) := by omega
      go_wp2_with fail
      refine bodyPost_ret (v := noBat) (by simp [results, Try.results12, go_sem, noBat, batV, hcc, hz2]) rfl ⟨?_, Or.inl ⟨HN.out, rfl⟩⟩
      exact Below.next_alloc ((HB2.out.setCell (Nat.le_refl _) _).setCell (Nat.le_refl _) _) _

/-- Decode, of every text of at most 10^9 bytes. -/
theorem decode_any (s : ByteArray) (w : World) (hs : s.size ≤ 1000000000) :
    Calls Try.prog 12 #[.string s] w (DecRead (Bt.decl s.data.toList) w) := by
  cases h : Nm.rv s.data.toList with
  | none =>
    have e : Bt.decl s.data.toList = none := by rw [decl_of, h]
    rw [e]
    exact decode_none s w hs h
  | some x => exact decode_some s x.1 x.2 w hs h

end Go.Proofs.Ytohfjibhfbcanaa
