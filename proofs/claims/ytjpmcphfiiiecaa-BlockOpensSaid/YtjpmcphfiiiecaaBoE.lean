/- The walk of block's readEntry, where it reads one. -/
import Derived.Test.YtjpmcphfiiiecaaBoD
namespace Go.Proofs.Ytjpmcphfiiiecaa.Bo
open Go Go.RowKit
set_option linter.unusedVariables false

/-- 'v[:n:n]'. -/
theorem slice_cut {w : World} {a : Option Addr} {cap : Nat} {p : List UInt8} (h : SeesB w (.slice a p.length cap) p) (n : Nat) (hn : n ≤ cap) :
    ∀ w' : World, (Instr.slice 22 (.slice a p.length cap) none (some (.int .u64 (n : Int))) (some (.int .u64 (n : Int)))).run Try.prog w' = .ok (.slice a n n) w' := by
  intro w'
  obtain ⟨i0, hi, hz0, hz1, hz2⟩ := info_parts info_u8
  obtain ⟨a2, c2, e, h1, h0, h2⟩ := h
  simp only [Value.slice.injEq, true_and] at e
  obtain ⟨rfl, rfl⟩ := e
  rw [run_slice_hm w' 22 a p.length cap (by kernel_rfl) .u64 .u64 n n (by omega) (by omega) (by omega)]
  have he : Try.prog.elem 22 = 5 := by kernel_rfl
  rw [he]
  have hs : (sizeOf 5).run Try.prog w' = .ok 1 w' := by simp [sizeOf, typeInfo, hi, hz1]
  rw [hs]
  simp only [Result.andThen, sliced, Int.toNat_natCast, Nat.sub_zero]
  cases a with
  | none => simp
  | some A =>
    obtain ⟨b, rfl, -, -⟩ := h2 A rfl
    simp [Addr.add]

set_option maxHeartbeats 1000000 in
theorem readEntry_ok (s : ByteArray) (a : Option Addr) (p : List UInt8) (cap n k j i : Nat) (r v : List UInt8) (w : World) (hs : s.size ≤ 100000000) (hsee : SeesB w (.slice a p.length cap) p) (hv : Nm.rv s.data.toList = some (n, k)) (hpl : p.length ≤ 10000000000) (h : ¬ (p.length : Int) < n)
    (hr : rt (s.data.toList.drop k) 1024 = some (r, j)) (hr2 : rt (s.data.toList.drop (k + j)) 1024 = some (v, i)) :
    Calls Try.prog 46 #[.string s, .slice a p.length cap] w (ERead (some (⟨⟨(p.take n ++ r).toArray⟩, ⟨v.toArray⟩⟩, k + j + i)) w) := by
  have HV := Lib.hid (rvV_some hv)
  obtain ⟨RB, hRB⟩ : ∃ RB : ByteArray, RB = ⟨r.toArray⟩ := ⟨_, rfl⟩
  have HRB := Lib.hid hRB
  have HRZ : Hid (RB.size = r.length) := Lib.hid (by rw [hRB, size_mk])
  have HRL : Hid (RB.data.toList = r) := Lib.hid (by rw [hRB])
  have HR : Hid (rtV (s.data.toList.drop k) 1024 = .tuple #[.string RB, .int .i64 (j : Int), .bool true]) := Lib.hid (by unfold rtV; rw [hr, hRB])
  have HR2 : Hid (rtV (s.data.toList.drop (k + j)) 1024 = .tuple #[.string ⟨v.toArray⟩, .int .i64 (i : Int), .bool true]) := Lib.hid (by unfold rtV; rw [hr2])
  have hk := (Nm.row_rv hv).2.1
  rw [len] at hk
  have hj := (txt_rt hr).2.1
  rw [List.length_drop, len] at hj
  have hi := (txt_rt hr2).2.1
  rw [List.length_drop, len] at hi
  have hrl := (txt_rt hr).2.2.2
  have hki : (k : Int) ≤ s.size := by omega
  have hji : (k : Int) + j ≤ s.size := by omega
  have hii : (k : Int) + j + i ≤ s.size := by omega
  have hbx := Boxed.new w (.slice none 0 0) (.string ⟨#[]⟩)
  have hwr : IntKind.u64.wrap (p.length : Int) = p.length := by rw [IntKind.wrap_u64]; omega
  have hcp : p.length ≤ cap := by
    obtain ⟨a2, c2, e, h1, -⟩ := hsee
    simp only [Value.slice.injEq] at e
    omega
  have hnc : (n : Int) ≤ cap := by omega
  have HNP : Hid (n ≤ p.length) := Lib.hid (by omega)
  have HNP0 : Hid (n ≤ p.length) := HNP
  have hrs : Hid (n + RB.size ≤ 100000000000) := Lib.hid (by rw [HRZ.out]; omega)
  have HSE := Lib.hid hsee
  have hsl := slice_cut hsee n (by omega)
  have HB := Lib.hid hbx; clear hRB; clear hbx hv hr hr2 hk hj hi hsee
  clear HNP
  generalize hPL : p.length = pl at *
  have HPL := Lib.hid hPL; clear hPL
  have HNL : Hid (n ≤ p.length) := Lib.hid (by rw [HPL.out]; exact HNP0.out)
  go_enter Try.func46, Try.ntmps46
  go_wp2_with fail
  refine (readVar_any _ _ (by omega)).mono ?_
  rintro e w1 ⟨rfl, rfl⟩
  rw [HV.out]
  go_wp2_with fail
  refine (readText_any _ _ _ (by rw [ByteArray.size_extract]; omega) (by omega)).mono ?_
  rintro e w1 ⟨rfl, hb⟩
  rw [Lib.extract_to_end, HR.out]
  have HB1 := Lib.hid (HB.out.call hb)
  clear hb
  go_wp2_with fail
  refine (readText_any _ _ _ (by rw [ByteArray.size_extract]; omega) (by omega)).mono ?_
  rintro e w2 ⟨rfl, hb⟩
  rw [Lib.extract_to_end, HR2.out]
  have HB2 := Lib.hid (HB1.out.call hb)
  clear hb
  go_wp2_with (at_builtin; go_must (refine wpList_append_cut rfl _ _ rfl a cap p n rfl ?c1 HNL.out RB rfl hrs.out ?_))
  case c1 => rw [HPL.out]; exact HSE.out.below HB2.out.hb
  intro a' c' w3 hsee3 hb3
  have HB3 := Lib.hid (HB2.out.call hb3)
  have hkz : (⟨(p.take n ++ r).toArray⟩ : ByteArray).size = n + RB.size := by
    rw [size_mk, HRZ.out, List.length_append, List.length_take]
    have := HNP0.out
    have := HPL.out
    omega
  have HKZ := Lib.hid hkz
  have HS3 : Hid (SeesB w3 (.slice a' (n + RB.size) c') (p.take n ++ r)) := Lib.hid (by rw [HRL.out] at hsee3; exact hsee3)
  clear hb3 hsee3 hkz
  generalize n + RB.size = kz at *
  obtain ⟨c0, c1, f0, f1⟩ := HB3.out.cells
  have HZ := Lib.hid (HB3.out.set (.slice a' kz c') (.string ⟨v.toArray⟩))
  go_wp2_with fail
  obtain ⟨d0, d1, -, -⟩ := HZ.out.cells
  refine bodyPost_ret (v := .tuple #[.agg #[.slice a' kz c', .string ⟨v.toArray⟩], .int .i64 ((k : Int) + j + i), .bool true]) (by simp [results, Try.results46, go_sem, d0, d1]) rfl ⟨HZ.out.hb, a', c', ?_, ?_⟩
  · dsimp only
    rw [HKZ.out]
    have e : ((k + j + i : Nat) : Int) = (k : Int) + j + i := by omega
    rw [e]
  · dsimp only
    rw [HKZ.out]
    refine HS3.out.frame fun b cs fz hb => ?_
    have hne : b ≠ w.heap.size := by
      intro e
      rw [e, HB3.out.h] at hb
      simp only [Option.some.injEq, Obj.cells.injEq] at hb
      exact absurd hb.2.1 (by decide)
    exact (setCell_kept _ _ _ hne).trans (setCell_kept _ _ _ hne)
end Go.Proofs.Ytjpmcphfiiiecaa.Bo
