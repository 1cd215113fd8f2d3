/- The walk of Mem.Put. -/
import Derived.Test.YtmdnmabbphnhaaaMmB
namespace Go.Proofs.Ytmdnmabbphnhaaa.Mm
open Go Go.RowKit Go.Proofs.Ytmdnmabbphnhaaa.Sk Go.Proofs.Ytmdnmabbphnhaaa.Sm
set_option linter.unusedVariables false
set_option linter.unusedSimpArgs false

abbrev entO (e : Ent) : Obj := .cells #[.string e.key, .string e.val, .int .u64 (e.seq : Int), .bool e.gone] 32
/-- Put of an entry that is gone and has a value. -/
theorem put_bad {w : World} {M : MLay} {s r : List (It Ent)} (h : Held w M s r) (e : Ent) (H : Int) (hb : badE e = true) :
    Calls Try.prog 9 #[.pointer (some ⟨M.m, 0, none⟩), enV e, .int .i64 H] w fun x w' => x = .returned (.int .i64 1) ∧ Below w.heap.size w w' := by
  have HM := Lib.hid (fun W (hb : Below w.heap.size w W) => made_yes (h.below hb))
  rw [show enV e = .agg #[.string e.key, .string e.val, .int .u64 (e.seq : Int), .bool e.gone] from rfl]
  unfold badE at hb
  rw [Bool.and_eq_true] at hb
  obtain ⟨hg, hv⟩ := hb
  have hv2 : e.val.toList.isEmpty = false := by
    have h1 : e.val.size ≠ 0 := by simpa using hv
    cases h2 : e.val.toList with
    | nil =>
      exfalso
      rw [ByteArray.toList_eq] at h2
      apply h1
      have h3 : e.val.data.toList.length = 0 := by rw [h2]; rfl
      rw [Array.length_toList] at h3
      exact h3
    | cons => rfl
  clear h hv
  go_enter Try.func9, Try.ntmps9
  go_wp2_with fail
  refine (HM.out _ (alloc_below w _)).mono ?_
  rintro x w1 ⟨rfl, rfl⟩
  go_wp2_with fail
  go_ret
  exact ⟨rfl, alloc_below w _⟩

theorem empty_of {v : ByteArray} (h : v.size = 0) : v.toList.isEmpty = true := by
  have h2 : v.data.toList.length = 0 := by rw [Array.length_toList]; exact h
  rw [ByteArray.toList_eq, List.isEmpty_iff]
  exact List.eq_nil_of_length_eq_zero h2
set_option maxHeartbeats 8000000 in
set_option maxRecDepth 100000 in
/-- Put of an entry whose version is there. -/
theorem put_there {w : World} {M : MLay} {s r : List (It Ent)} (h : Held w M s r) (e : Ent) (H : Int) (hf : Fit e) (hb : badE e = false) (hi : (Sk.find (placeE e) s).isSome = true) :
    Calls Try.prog 9 #[.pointer (some ⟨M.m, 0, none⟩), enV e, .int .i64 H] w fun x w' => x = .returned (.int .i64 5) ∧ Below w.heap.size w w' := by
  obtain ⟨Wz, hWz⟩ : ∃ Wz, Wz = w.alloc (entO e) := ⟨_, rfl⟩
  have HZB : Hid (Below w.heap.size w Wz) := Lib.hid (by rw [hWz]; exact alloc_below w _)
  have hzh : Wz.heap[w.heap.size]? = some (entO e) := by rw [hWz]; exact heap_alloc_new w _
  have HZH := Lib.hid hzh
  have HW := Lib.hid hWz
  have hz := h.below HZB.out
  have HM := Lib.hid (made_yes hz)
  have HP := Lib.hid (fun W => place_any e.key e.seq W (by have := hf.key; omega) hf.seq)
  have HG := Lib.hid (fun W (hb : Below Wz.heap.size Wz W) => get_any (hz.below hb).lies ⟨(place e.key.data.toList e.seq).toArray⟩)
  have hd : (⟨(place e.key.data.toList e.seq).toArray⟩ : ByteArray).data.toList = placeE e := rfl
  rw [hd] at HG
  clear hd
  have HC := Lib.hid (fun W (hb : Below Wz.heap.size Wz W) => (hz.below hb).c0)
  generalize (⟨(place e.key.data.toList e.seq).toArray⟩ : ByteArray) = P at *
  obtain ⟨y, hy⟩ := Option.isSome_iff_exists.1 hi
  rw [hy] at HG
  rw [show getV (some y) = .tuple #[.agg #[.string y.val.key, .string y.val.val, .int .u64 (y.val.seq : Int), .bool y.val.gone], .bool true] from rfl] at HG
  rw [show enV e = .agg #[.string e.key, .string e.val, .int .u64 (e.seq : Int), .bool e.gone] from rfl]
  obtain ⟨b0, b1, b2, b3, f0, f1, f2, f3⟩ := box4 hzh
  clear hWz h hzh hy hi hz
  unfold badE at hb
  rw [Bool.and_eq_false_iff] at hb
  have hem : e.gone = false ∨ (e.gone = true ∧ e.val.toList.isEmpty = true) := by
    cases hg : e.gone with
    | false => exact Or.inl rfl
    | true =>
      refine Or.inr ⟨rfl, empty_of ?_⟩
      rw [hg] at hb
      simpa using hb
  clear hb
  go_enter Try.func9, Try.ntmps9
  go_wp2_with fail
  rw [← HW.out]
  clear HW
  refine HM.out.mono ?_
  rintro x w1 ⟨rfl, hw1⟩
  rw [hw1]
  clear hw1 w1
  rcases hem with hg | ⟨hg, hv⟩
  all_goals
    go_wp2_with fail
    refine (HP.out _).mono ?_
    rintro x w1 ⟨rfl, hb1⟩
    have HB1 := Lib.hid hb1
    clear hb1
    have c0 := HC.out _ HB1.out
    go_wp2_with fail
    refine (HG.out _ HB1.out).mono ?_
    rintro x w2 ⟨rfl, hb2⟩
    have HB2 := Lib.hid (Below.next HB1.out hb2)
    clear hb2
    go_wp2_with fail
    go_ret
    exact ⟨rfl, HZB.out.trans ((HB2.out.mono HZB.out.size).alloc (by have := HB2.out.size; have := HZB.out.size; omega) _)⟩

end Go.Proofs.Ytmdnmabbphnhaaa.Mm
