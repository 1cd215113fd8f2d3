/- The walk of Mem.At (genmmb.py wrote the orders of its region). -/
import Derived.Test.YtmdnmabbphnhaaaMmB
import Derived.Deep.Cut
import Derived.Deep.DeepCutAuto
namespace Go.Proofs.Ytmdnmabbphnhaaa.Mm
open Go Go.RowKit Go.Proofs.Ytmdnmabbphnhaaa.Sk Go.Proofs.Ytmdnmabbphnhaaa.Sm
set_option linter.unusedVariables false
set_option linter.unusedSimpArgs false

/-- What At answers. -/
def atV : Option Ent → Value
  | none => .tuple #[zeroE, .bool false]
  | some e => .tuple #[enV e, .bool true]
set_option maxHeartbeats 8000000 in
set_option maxRecDepth 100000 in
theorem at_any {w : World} {M : MLay} {s r : List (It Ent)} (h : Held w M s r) (K : ByteArray) (q : Nat) (hK : K.size ≤ 1000000) (hq : q < 18446744073709551616) :
    Calls Try.prog 10 #[.pointer (some ⟨M.m, 0, none⟩), .string K, .int .u64 (q : Int)] w fun e w' => e = .returned (atV (atL s K.data.toList q)) ∧ Below w.heap.size w w' := by
  obtain ⟨Wz, hWz⟩ : ∃ Wz, Wz = w.alloc (.cells #[.string ⟨#[]⟩, .string ⟨#[]⟩, .int .u64 0, .bool false] 32) := ⟨_, rfl⟩
  have HZB : Hid (Below w.heap.size w Wz) := Lib.hid (by rw [hWz]; exact alloc_below w _)
  have HZH : Hid (Wz.heap[w.heap.size]? = some (.cells #[.string ⟨#[]⟩, .string ⟨#[]⟩, .int .u64 0, .bool false] 32 (0, 0))) := Lib.hid (by rw [hWz]; exact heap_alloc_new w _)
  have HSZ : Hid (Wz.heap.size = w.heap.size + 1) := Lib.hid (by rw [hWz]; simp)
  have HW := Lib.hid hWz
  clear hWz
  have hz := h.below HZB.out
  have HM := Lib.hid (made_yes hz)
  have HBD : Hid (Below Wz.heap.size Wz Wz.drew) := Lib.hid (drew_below (Below.refl _ _))
  have HP := Lib.hid (fun W => place_any K q W hK hq)
  have HC := Lib.hid (fun W (hb : Below Wz.heap.size Wz W) => (hz.below hb).c0)
  have HS := Lib.hid (fun W (hb : Below Wz.heap.size Wz W) => seek_any (hz.below hb).lies ⟨(place K.data.toList q).toArray⟩)
  have HCP := Lib.hid (fun (e : Ent) W (he : e ∈ ents s) => copyOf_any e W (by have := (h.fits he).key; omega) (by have := (h.fits he).val; omega))
  have hd : (⟨(place K.data.toList q).toArray⟩ : ByteArray).data.toList = place K.data.toList q := rfl
  rw [hd] at HS
  clear hd
  generalize (⟨(place K.data.toList q).toArray⟩ : ByteArray) = P at *
  have HE : Hid (atL s K.data.toList q = match seek (place K.data.toList q) s with
    | some y => if y.val.key.data.toList = K.data.toList then some y.val else none
    | none => none) := Lib.hid rfl
  have HSM : Hid (∀ y, seek (place K.data.toList q) s = some y → y.val ∈ ents s) := Lib.hid (fun y hy => mem_ents.2 ⟨y, seek_mem hy, rfl⟩)
  generalize hso : seek (place K.data.toList q) s = so at *
  clear hso h hz
  obtain ⟨k1, v1, v2, v3, v4, c1, hT⟩ := tellV_made so
  rw [hT] at HS
  have HT := Lib.hid hT
  clear hT
  rw [HE.out]
  clear HE
  go_enter Try.func10, Try.ntmps10
  go_wp2_with fail
  rw [← HW.out]
  clear HW
  refine HM.out.mono ?_
  rintro e w1 ⟨rfl, hw1⟩
  rw [hw1]
  clear hw1 w1
  go_wp2_with fail
  go_cut [8, 9, 10] from 11 (fun a b o wr => Hid (∃ (X : Nat) (k0 : ByteArray), a = .string k0 ∧ b = .pointer (some ⟨X, 0, none⟩) ∧ o = .bool c1 ∧ X ≠ w.heap.size ∧ wr.heap[X]? = some (.cells #[.string v1, .string v2, .int .u64 (v3 : Int), .bool v4] 32 (0, 0)) ∧ Below Wz.heap.size Wz wr))
  case first =>
    refine wp_region_held_drew (S := fun w' => w'.cell? ⟨M.m, 0, none⟩ = some (.pointer (some ⟨M.L.b, 0, none⟩))) (by kernel_rfl) (HC.out _ HBD.out) (fun hH => ?_)
    refine wpAnyH_take (i := 0) (v := ?v0) rfl (by kernel_rfl) (by kernel_rfl) (by kernel_rfl) (fun _ _ _ h => h) (Or.inl ⟨by kernel_rfl, ?y0⟩) (by assumption) ?_; case y0 => (intro w' hS; have hS0 := hS; go_simp; try with_reducible rfl)
    simp only [Act.put, List.setIfInBounds_toArray, List.set_cons_zero, List.set_cons_succ]
    refine wpAnyH_take (i := 1) (v := ?v1) rfl (by kernel_rfl) (by kernel_rfl) (by kernel_rfl) (fun _ _ _ h => h) (Or.inl ⟨by kernel_rfl, ?y1⟩) (by assumption) ?_; case y1 => (intro w' hS; have hS0 := hS; go_simp; try with_reducible rfl)
    simp only [Act.put, List.setIfInBounds_toArray, List.set_cons_zero, List.set_cons_succ]
    refine wpAnyH_take (i := 2) (v := ?v2) rfl (by kernel_rfl) (by kernel_rfl) (by kernel_rfl) (fun _ _ _ h => h) (Or.inl ⟨by kernel_rfl, ?y2⟩) (by assumption) ?_; case y2 => (intro w' hS; have hS0 := hS; go_simp; try with_reducible rfl)
    simp only [Act.put, List.setIfInBounds_toArray, List.set_cons_zero, List.set_cons_succ]
    refine wpAnyH_take (i := 3) (v := ?v3) rfl (by kernel_rfl) (by kernel_rfl) (by kernel_rfl) (fun _ _ _ h => h) (Or.inl ⟨by kernel_rfl, ?y3⟩) (by assumption) ?_; case y3 => (intro w' hS; have hS0 := hS; go_simp; try with_reducible rfl)
    simp only [Act.put, List.setIfInBounds_toArray, List.set_cons_zero, List.set_cons_succ]
    refine wpAnyH_take (i := 4) (v := ?v4) rfl (by kernel_rfl) (by kernel_rfl) (by kernel_rfl) (fun _ _ _ h => h) (Or.inl ⟨by kernel_rfl, ?y4⟩) (by assumption) ?_; case y4 => (intro w' hS; have hS0 := hS; go_simp; try with_reducible rfl)
    simp only [Act.put, List.setIfInBounds_toArray, List.set_cons_zero, List.set_cons_succ]
    refine wpAnyH_take (i := 5) (v := ?v5) rfl (by kernel_rfl) (by kernel_rfl) (by kernel_rfl) (fun _ _ _ h => h) (Or.inl ⟨by kernel_rfl, ?y5⟩) (by assumption) ?_; case y5 => (intro w' hS; have hS0 := hS; go_simp; try with_reducible rfl)
    simp only [Act.put, List.setIfInBounds_toArray, List.set_cons_zero, List.set_cons_succ]
    refine wpAnyH_ready (rs := [6, 12]) (by kernel_rfl) (by simp) ?_
    refine AllReadyH.cons rfl (fun K hK => ?_) (AllReadyH.cons rfl (fun K hK => ?_) AllReadyH.nil)
    · go_simp
      refine (HP.out _).mono ?_
      rintro e w1 ⟨rfl, hb1⟩
      have HB1 := Lib.hid (Below.next HBD.out hb1)
      have hz1 : Wz.heap.size ≤ w1.heap.size := HB1.out.size
      clear hb1
      refine hK.out _ _ (HC.out _ HB1.out) (fun _ => ?_)
      clear hK K
      try simp only [Act.put, List.setIfInBounds_toArray, List.set_cons_zero, List.set_cons_succ]
      refine wpAnyH_ready (rs := [7, 12]) (by kernel_rfl) (by simp) ?_
      refine AllReadyH.cons rfl (fun K hK => ?_) (AllReadyH.cons rfl (fun K hK => ?_) AllReadyH.nil)
      · go_simp
        refine (HS.out _ HB1.out).mono ?_
        rintro e w2 ⟨rfl, hb2⟩
        have HB2 := Lib.hid (Below.next HB1.out hb2)
        have hz2 : Wz.heap.size ≤ w2.heap.size := HB2.out.size
        clear hb2
        refine hK.out _ _ (HC.out _ HB2.out) (fun _ => ?_)
        clear hK K
        try simp only [Act.put, List.setIfInBounds_toArray, List.set_cons_zero, List.set_cons_succ]
        refine wpAnyH_take (i := 8) (v := ?v8b) rfl (by kernel_rfl) (by kernel_rfl) (by kernel_rfl) (fun _ _ _ h => h) (Or.inl ⟨by kernel_rfl, ?y8b⟩) (by assumption) ?_; case y8b => (intro w' hS; have hS0 := hS; go_simp; try with_reducible rfl)
        simp only [Act.put, List.setIfInBounds_toArray, List.set_cons_zero, List.set_cons_succ]
        refine wpAnyH_take (i := 9) (v := ?v9b) rfl (by kernel_rfl) (by kernel_rfl) (by kernel_rfl) (fun _ _ _ h => h) (Or.inl ⟨by kernel_rfl, ?y9b⟩) (by assumption) ?_; case y9b => (intro w' hS; have hS0 := hS; go_simp; try with_reducible rfl)
        simp only [Act.put, List.setIfInBounds_toArray, List.set_cons_zero, List.set_cons_succ]
        refine wpAnyH_take (i := 10) (v := ?v10b) rfl (by kernel_rfl) (by kernel_rfl) (by kernel_rfl) (fun _ _ _ h => h) (Or.inl ⟨by kernel_rfl, ?y10b⟩) (by assumption) ?_; case y10b => (intro w' hS; have hS0 := hS; go_simp; try with_reducible rfl)
        simp only [Act.put, List.setIfInBounds_toArray, List.set_cons_zero, List.set_cons_succ]
        refine wpAnyH_take (i := 11) (v := ?v11b) rfl (by kernel_rfl) (by kernel_rfl) (by kernel_rfl) (fun _ _ _ h => h) (Or.inl ⟨by kernel_rfl, ?y11b⟩) (by assumption) ?_; case y11b => (intro w' hS; have hS0 := hS; go_simp; try with_reducible rfl)
        simp only [Act.put, List.setIfInBounds_toArray, List.set_cons_zero, List.set_cons_succ]
        refine wpAnyH_ready (rs := [12]) (by kernel_rfl) (by simp) ?_
        refine AllReadyH.cons rfl (fun K hK => ?_) AllReadyH.nil
        go_simp
        have HBA := Lib.hid ((HB2.out).alloc (HB2.out).size (.cells #[.string ⟨#[]⟩, .string ⟨#[]⟩, .int .u64 0, .bool false] 32))
        have hX : ((w2).alloc (.cells #[.string ⟨#[]⟩, .string ⟨#[]⟩, .int .u64 0, .bool false] 32)).heap[w2.heap.size]? = some (.cells #[.string ⟨#[]⟩, .string ⟨#[]⟩, .int .u64 0, .bool false] 32 (0, 0)) := by have := heap_alloc_new (w2) (.cells #[.string ⟨#[]⟩, .string ⟨#[]⟩, .int .u64 0, .bool false] 32); simpa using this
        refine hK.out _ _ (HC.out _ HBA.out) (fun _ => ?_)
        clear hK K
        try simp only [Act.put, List.setIfInBounds_toArray, List.set_cons_zero, List.set_cons_succ]
        obtain ⟨b0, b1, b2, b3, f0, f1, f2, f3⟩ := box4 hX
        refine wpAnyH_ready (rs := [13]) (by kernel_rfl) (by simp) ?_
        refine AllReadyH.cons rfl (fun K hK => ?_) AllReadyH.nil
        go_simp
        refine hK.out _ _ (by assumption) (fun _ => ?_)
        clear hK K
        try simp only [Act.put, List.setIfInBounds_toArray, List.set_cons_zero, List.set_cons_succ]
        refine wpAnyH_ready (rs := [14]) (by kernel_rfl) (by simp) ?_
        refine AllReadyH.cons rfl (fun K hK => ?_) AllReadyH.nil
        go_simp
        have HZ : Hid (w2.heap.size ≠ w.heap.size) := Lib.hid (by have := HSZ.out; omega)
        have hbz := HB2.out.alloc HB2.out.size (.cells #[.string v1, .string v2, .int .u64 (v3 : Int), .bool v4] 32)
        have hz := heap_alloc_new w2 (.cells #[.string v1, .string v2, .int .u64 (v3 : Int), .bool v4] 32)
        refine hK.out _ _ (HC.out _ hbz) (fun _ => ?_)
        clear hK K
        try simp only [Act.put, List.setIfInBounds_toArray, List.set_cons_zero, List.set_cons_succ]
        refine wpAnyH_ready (rs := [15]) (by kernel_rfl) (by simp) ?_
        refine AllReadyH.cons rfl (fun K hK => ?_) AllReadyH.nil
        go_simp
        refine hK.out _ _ (HC.out _ hbz) (fun _ => ?_)
        clear hK K
        try simp only [Act.put, List.setIfInBounds_toArray, List.set_cons_zero, List.set_cons_succ]
        refine wpAnyH_done (by kernel_rfl) ?_ _
        go_wp2_with fail
        go_meet
        case rel => exact Lib.hid ⟨_, _, rfl, rfl, rfl, HZ.out, hz, hbz⟩
      · go_simp
        have HBA := Lib.hid ((HB1.out).alloc (HB1.out).size (.cells #[.string ⟨#[]⟩, .string ⟨#[]⟩, .int .u64 0, .bool false] 32))
        have hX : ((w1).alloc (.cells #[.string ⟨#[]⟩, .string ⟨#[]⟩, .int .u64 0, .bool false] 32)).heap[w1.heap.size]? = some (.cells #[.string ⟨#[]⟩, .string ⟨#[]⟩, .int .u64 0, .bool false] 32 (0, 0)) := by have := heap_alloc_new (w1) (.cells #[.string ⟨#[]⟩, .string ⟨#[]⟩, .int .u64 0, .bool false] 32); simpa using this
        refine hK.out _ _ (HC.out _ HBA.out) (fun _ => ?_)
        clear hK K
        try simp only [Act.put, List.setIfInBounds_toArray, List.set_cons_zero, List.set_cons_succ]
        refine wpAnyH_ready (rs := [7]) (by kernel_rfl) (by simp) ?_
        refine AllReadyH.cons rfl (fun K hK => ?_) AllReadyH.nil
        go_simp
        refine (HS.out _ HBA.out).mono ?_
        rintro e w2 ⟨rfl, hb2⟩
        have HB2 := Lib.hid (Below.next HBA.out hb2)
        have hz2 : Wz.heap.size ≤ w2.heap.size := HB2.out.size
        have hX2 := (hb2.block _ (heap_lt hX)).trans hX
        clear hb2
        refine hK.out _ _ (HC.out _ HB2.out) (fun _ => ?_)
        clear hK K
        try simp only [Act.put, List.setIfInBounds_toArray, List.set_cons_zero, List.set_cons_succ]
        refine wpAnyH_take (i := 8) (v := ?v8c) rfl (by kernel_rfl) (by kernel_rfl) (by kernel_rfl) (fun _ _ _ h => h) (Or.inl ⟨by kernel_rfl, ?y8c⟩) (by assumption) ?_; case y8c => (intro w' hS; have hS0 := hS; go_simp; try with_reducible rfl)
        simp only [Act.put, List.setIfInBounds_toArray, List.set_cons_zero, List.set_cons_succ]
        refine wpAnyH_take (i := 9) (v := ?v9c) rfl (by kernel_rfl) (by kernel_rfl) (by kernel_rfl) (fun _ _ _ h => h) (Or.inl ⟨by kernel_rfl, ?y9c⟩) (by assumption) ?_; case y9c => (intro w' hS; have hS0 := hS; go_simp; try with_reducible rfl)
        simp only [Act.put, List.setIfInBounds_toArray, List.set_cons_zero, List.set_cons_succ]
        refine wpAnyH_take (i := 10) (v := ?v10c) rfl (by kernel_rfl) (by kernel_rfl) (by kernel_rfl) (fun _ _ _ h => h) (Or.inl ⟨by kernel_rfl, ?y10c⟩) (by assumption) ?_; case y10c => (intro w' hS; have hS0 := hS; go_simp; try with_reducible rfl)
        simp only [Act.put, List.setIfInBounds_toArray, List.set_cons_zero, List.set_cons_succ]
        refine wpAnyH_take (i := 11) (v := ?v11c) rfl (by kernel_rfl) (by kernel_rfl) (by kernel_rfl) (fun _ _ _ h => h) (Or.inl ⟨by kernel_rfl, ?y11c⟩) (by assumption) ?_; case y11c => (intro w' hS; have hS0 := hS; go_simp; try with_reducible rfl)
        simp only [Act.put, List.setIfInBounds_toArray, List.set_cons_zero, List.set_cons_succ]
        obtain ⟨b0, b1, b2, b3, f0, f1, f2, f3⟩ := box4 hX2
        refine wpAnyH_ready (rs := [13]) (by kernel_rfl) (by simp) ?_
        refine AllReadyH.cons rfl (fun K hK => ?_) AllReadyH.nil
        go_simp
        refine hK.out _ _ (by assumption) (fun _ => ?_)
        clear hK K
        try simp only [Act.put, List.setIfInBounds_toArray, List.set_cons_zero, List.set_cons_succ]
        refine wpAnyH_ready (rs := [14]) (by kernel_rfl) (by simp) ?_
        refine AllReadyH.cons rfl (fun K hK => ?_) AllReadyH.nil
        go_simp
        have HZ : Hid (w1.heap.size ≠ w.heap.size) := Lib.hid (by have := HSZ.out; omega)
        have hbz := set4_below (B := Wz.heap.size) (b := w1.heap.size) (.string v1) (.string v2) (.int .u64 (v3 : Int)) (.bool v4) HB2.out (by omega)
        have hz := set4_heap (.string v1) (.string v2) (.int .u64 (v3 : Int)) (.bool v4) hX2
        dsimp only [set4] at hz hbz
        refine hK.out _ _ (HC.out _ hbz) (fun _ => ?_)
        clear hK K
        try simp only [Act.put, List.setIfInBounds_toArray, List.set_cons_zero, List.set_cons_succ]
        refine wpAnyH_ready (rs := [15]) (by kernel_rfl) (by simp) ?_
        refine AllReadyH.cons rfl (fun K hK => ?_) AllReadyH.nil
        go_simp
        refine hK.out _ _ (HC.out _ hbz) (fun _ => ?_)
        clear hK K
        try simp only [Act.put, List.setIfInBounds_toArray, List.set_cons_zero, List.set_cons_succ]
        refine wpAnyH_done (by kernel_rfl) ?_ _
        go_wp2_with fail
        go_meet
        case rel => exact Lib.hid ⟨_, _, rfl, rfl, rfl, HZ.out, hz, hbz⟩
    · go_simp
      have HBA := Lib.hid ((HBD.out).alloc (HBD.out).size (.cells #[.string ⟨#[]⟩, .string ⟨#[]⟩, .int .u64 0, .bool false] 32))
      have hX : ((Wz.drew).alloc (.cells #[.string ⟨#[]⟩, .string ⟨#[]⟩, .int .u64 0, .bool false] 32)).heap[Wz.heap.size]? = some (.cells #[.string ⟨#[]⟩, .string ⟨#[]⟩, .int .u64 0, .bool false] 32 (0, 0)) := by have := heap_alloc_new (Wz.drew) (.cells #[.string ⟨#[]⟩, .string ⟨#[]⟩, .int .u64 0, .bool false] 32); simpa using this
      refine hK.out _ _ (HC.out _ HBA.out) (fun _ => ?_)
      clear hK K
      try simp only [Act.put, List.setIfInBounds_toArray, List.set_cons_zero, List.set_cons_succ]
      refine wpAnyH_ready (rs := [6]) (by kernel_rfl) (by simp) ?_
      refine AllReadyH.cons rfl (fun K hK => ?_) AllReadyH.nil
      go_simp
      refine (HP.out _).mono ?_
      rintro e w1 ⟨rfl, hb1⟩
      have HB1 := Lib.hid (Below.next HBA.out hb1)
      have hz1 : Wz.heap.size ≤ w1.heap.size := HB1.out.size
      have hX1 := (hb1.block _ (heap_lt hX)).trans hX
      clear hb1
      refine hK.out _ _ (HC.out _ HB1.out) (fun _ => ?_)
      clear hK K
      try simp only [Act.put, List.setIfInBounds_toArray, List.set_cons_zero, List.set_cons_succ]
      refine wpAnyH_ready (rs := [7]) (by kernel_rfl) (by simp) ?_
      refine AllReadyH.cons rfl (fun K hK => ?_) AllReadyH.nil
      go_simp
      refine (HS.out _ HB1.out).mono ?_
      rintro e w2 ⟨rfl, hb2⟩
      have HB2 := Lib.hid (Below.next HB1.out hb2)
      have hz2 : Wz.heap.size ≤ w2.heap.size := HB2.out.size
      have hX2 := (hb2.block _ (heap_lt hX1)).trans hX1
      clear hb2
      refine hK.out _ _ (HC.out _ HB2.out) (fun _ => ?_)
      clear hK K
      try simp only [Act.put, List.setIfInBounds_toArray, List.set_cons_zero, List.set_cons_succ]
      refine wpAnyH_take (i := 8) (v := ?v8a) rfl (by kernel_rfl) (by kernel_rfl) (by kernel_rfl) (fun _ _ _ h => h) (Or.inl ⟨by kernel_rfl, ?y8a⟩) (by assumption) ?_; case y8a => (intro w' hS; have hS0 := hS; go_simp; try with_reducible rfl)
      simp only [Act.put, List.setIfInBounds_toArray, List.set_cons_zero, List.set_cons_succ]
      refine wpAnyH_take (i := 9) (v := ?v9a) rfl (by kernel_rfl) (by kernel_rfl) (by kernel_rfl) (fun _ _ _ h => h) (Or.inl ⟨by kernel_rfl, ?y9a⟩) (by assumption) ?_; case y9a => (intro w' hS; have hS0 := hS; go_simp; try with_reducible rfl)
      simp only [Act.put, List.setIfInBounds_toArray, List.set_cons_zero, List.set_cons_succ]
      refine wpAnyH_take (i := 10) (v := ?v10a) rfl (by kernel_rfl) (by kernel_rfl) (by kernel_rfl) (fun _ _ _ h => h) (Or.inl ⟨by kernel_rfl, ?y10a⟩) (by assumption) ?_; case y10a => (intro w' hS; have hS0 := hS; go_simp; try with_reducible rfl)
      simp only [Act.put, List.setIfInBounds_toArray, List.set_cons_zero, List.set_cons_succ]
      refine wpAnyH_take (i := 11) (v := ?v11a) rfl (by kernel_rfl) (by kernel_rfl) (by kernel_rfl) (fun _ _ _ h => h) (Or.inl ⟨by kernel_rfl, ?y11a⟩) (by assumption) ?_; case y11a => (intro w' hS; have hS0 := hS; go_simp; try with_reducible rfl)
      simp only [Act.put, List.setIfInBounds_toArray, List.set_cons_zero, List.set_cons_succ]
      obtain ⟨b0, b1, b2, b3, f0, f1, f2, f3⟩ := box4 hX2
      refine wpAnyH_ready (rs := [13]) (by kernel_rfl) (by simp) ?_
      refine AllReadyH.cons rfl (fun K hK => ?_) AllReadyH.nil
      go_simp
      refine hK.out _ _ (by assumption) (fun _ => ?_)
      clear hK K
      try simp only [Act.put, List.setIfInBounds_toArray, List.set_cons_zero, List.set_cons_succ]
      refine wpAnyH_ready (rs := [14]) (by kernel_rfl) (by simp) ?_
      refine AllReadyH.cons rfl (fun K hK => ?_) AllReadyH.nil
      go_simp
      have HZ : Hid (Wz.heap.size ≠ w.heap.size) := Lib.hid (by have := HSZ.out; omega)
      have hbz := set4_below (B := Wz.heap.size) (b := Wz.heap.size) (.string v1) (.string v2) (.int .u64 (v3 : Int)) (.bool v4) HB2.out (by omega)
      have hz := set4_heap (.string v1) (.string v2) (.int .u64 (v3 : Int)) (.bool v4) hX2
      dsimp only [set4] at hz hbz
      refine hK.out _ _ (HC.out _ hbz) (fun _ => ?_)
      clear hK K
      try simp only [Act.put, List.setIfInBounds_toArray, List.set_cons_zero, List.set_cons_succ]
      refine wpAnyH_ready (rs := [15]) (by kernel_rfl) (by simp) ?_
      refine AllReadyH.cons rfl (fun K hK => ?_) AllReadyH.nil
      go_simp
      refine hK.out _ _ (HC.out _ hbz) (fun _ => ?_)
      clear hK K
      try simp only [Act.put, List.setIfInBounds_toArray, List.set_cons_zero, List.set_cons_succ]
      refine wpAnyH_done (by kernel_rfl) ?_ _
      go_wp2_with fail
      go_meet
      case rel => exact Lib.hid ⟨_, _, rfl, rfl, rfl, HZ.out, hz, hbz⟩
  case rest =>
    obtain ⟨X, k0, rfl, rfl, rfl, hX0, hXb, hb⟩ := hcut.out
    have HB := Lib.hid hb
    clear hb hcut HBD HM HP HC HS
    cases so with
    | none =>
      obtain rfl : c1 = false := by
        have := HT.out
        simp [tellV] at this
        first | exact this.2.2 | exact this.2.2.symm
      obtain ⟨b0, b1, b2, b3, f0, f1, f2, f3⟩ := box4 hXb
      obtain ⟨z0, z1, z2, z3, g0, g1, g2, g3⟩ := box4 ((HB.out.block _ (heap_lt HZH.out)).trans HZH.out)
      clear HT hXb
      go_wp2_with fail
      have hzz := (HB.out.block _ (heap_lt HZH.out)).trans HZH.out
      have HBW : Hid (Below w.heap.size w wc) := Lib.hid (HZB.out.trans (HB.out.mono HZB.out.size))
      have hz := set4_heap (.string ⟨#[]⟩) (.string ⟨#[]⟩) (.int .u64 0) (.bool false) hzz
      have hbz := set4_below (B := w.heap.size) (.string ⟨#[]⟩) (.string ⟨#[]⟩) (.int .u64 0) (.bool false) HBW.out (Nat.le_refl _)
      dsimp only [set4] at hz hbz
      generalize (((wc.setCell ⟨w.heap.size, 0, none⟩ (.string ⟨#[]⟩)).setCell ⟨w.heap.size, 1, none⟩ (.string ⟨#[]⟩)).setCell ⟨w.heap.size, 2, none⟩ (.int .u64 0)).setCell ⟨w.heap.size, 3, none⟩ (.bool false) = w5 at *
      clear z0 z1 z2 z3
      obtain ⟨b0, b1, b2, b3, _, _, _, _⟩ := box4 hz
      exact bodyPost_ret (v := .tuple #[.agg #[.string ⟨#[]⟩, .string ⟨#[]⟩, .int .u64 0, .bool false], .bool false]) (by simp [results, Try.results10, go_sem, b0, b1, b2, b3]) rfl ⟨rfl, hbz⟩
    | some y =>
      obtain ⟨yk, ⟨VK, VV, VS, VG⟩, yh⟩ := y
      have ht := HT.out
      simp [tellV, enV] at ht
      obtain ⟨_, ⟨rfl, rfl, h3, rfl⟩, rfl⟩ := ht
      obtain rfl : v3 = VS := by omega
      obtain ⟨b0, b1, b2, b3, f0, f1, f2, f3⟩ := box4 hXb
      have hzz := (HB.out.block _ (heap_lt HZH.out)).trans HZH.out
      obtain ⟨z0, z1, z2, z3, g0, g1, g2, g3⟩ := box4 hzz
      have HCY := Lib.hid (fun W => HCP.out ⟨VK, VV, v3, VG⟩ W (HSM.out _ rfl))
      clear HT hXb HSM HCP h3
      by_cases hk : VK.data.toList = K.data.toList
      · obtain rfl : VK = K := WideShapes.bytes_inj hk
        clear hk
        go_wp2_with fail
        refine (HCY.out _).mono ?_
        rintro e w4 ⟨rfl, hb4⟩
        rw [show enV ⟨VK, VV, v3, VG⟩ = .agg #[.string VK, .string VV, .int .u64 (v3 : Int), .bool VG] from rfl]
        have HB4 := Lib.hid (Below.next HB.out hb4)
        have hz4 := (hb4.block _ (heap_lt hzz)).trans hzz
        clear hb4 z0 z1 z2 z3 g0 g1 g2 g3 b0 b1 b2 b3 f0 f1 f2 f3
        obtain ⟨z0, z1, z2, z3, g0, g1, g2, g3⟩ := box4 hz4
        go_wp2_with fail
        have HBW : Hid (Below w.heap.size w w4) := Lib.hid (HZB.out.trans (HB4.out.mono HZB.out.size))
        have hz := set4_heap (.string VK) (.string VV) (.int .u64 (v3 : Int)) (.bool VG) hz4
        have hbz := set4_below (B := w.heap.size) (.string VK) (.string VV) (.int .u64 (v3 : Int)) (.bool VG) HBW.out (Nat.le_refl _)
        dsimp only [set4] at hz hbz
        generalize (((w4.setCell ⟨w.heap.size, 0, none⟩ (.string VK)).setCell ⟨w.heap.size, 1, none⟩ (.string VV)).setCell ⟨w.heap.size, 2, none⟩ (.int .u64 (v3 : Int))).setCell ⟨w.heap.size, 3, none⟩ (.bool VG) = w5 at *
        clear z0 z1 z2 z3
        obtain ⟨b0, b1, b2, b3, _, _, _, _⟩ := box4 hz
        exact bodyPost_ret (v := .tuple #[.agg #[.string VK, .string VV, .int .u64 (v3 : Int), .bool VG], .bool true]) (by simp [results, Try.results10, go_sem, b0, b1, b2, b3]) rfl ⟨by first | rfl | (rw [if_pos rfl]; rfl), hbz⟩
      · have hkn : (VK.toList == K.toList) = false := by
          rw [ByteArray.toList_eq, ByteArray.toList_eq]
          exact beq_false_of_ne hk
        go_wp2_with fail
        have HBW : Hid (Below w.heap.size w wc) := Lib.hid (HZB.out.trans (HB.out.mono HZB.out.size))
        have hz := set4_heap (.string ⟨#[]⟩) (.string ⟨#[]⟩) (.int .u64 0) (.bool false) hzz
        have hbz := set4_below (B := w.heap.size) (.string ⟨#[]⟩) (.string ⟨#[]⟩) (.int .u64 0) (.bool false) HBW.out (Nat.le_refl _)
        dsimp only [set4] at hz hbz
        generalize (((wc.setCell ⟨w.heap.size, 0, none⟩ (.string ⟨#[]⟩)).setCell ⟨w.heap.size, 1, none⟩ (.string ⟨#[]⟩)).setCell ⟨w.heap.size, 2, none⟩ (.int .u64 0)).setCell ⟨w.heap.size, 3, none⟩ (.bool false) = w5 at *
        clear z0 z1 z2 z3
        obtain ⟨b0, b1, b2, b3, _, _, _, _⟩ := box4 hz
        exact bodyPost_ret (v := .tuple #[.agg #[.string ⟨#[]⟩, .string ⟨#[]⟩, .int .u64 0, .bool false], .bool false]) (by simp [results, Try.results10, go_sem, b0, b1, b2, b3]) rfl ⟨by first | rfl | (rw [if_neg hk]; rfl), hbz⟩
end Go.Proofs.Ytmdnmabbphnhaaa.Mm
