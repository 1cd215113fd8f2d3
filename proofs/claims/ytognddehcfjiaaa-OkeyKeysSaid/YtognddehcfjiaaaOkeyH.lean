/- The walk of okey.Parts. -/
import Derived.Test.YtognddehcfjiaaaOkeyG
namespace Go.Proofs.Ytognddehcfjiaaa
open Go.RowKit
set_option linter.unusedVariables false

theorem info_part : (Try.prog.info? 28).map (fun i => (i.zero, i.size, i.bytes)) = some (some (.agg #[.bool false, .string ⟨#[]⟩, .int .u64 0]), 3, 32) := by kernel_rfl

/-- A part as cells. -/
def cellsP (p : Pt) : List Value := [.bool p.t, .string p.s, .int .u64 p.n]
/-- A slice of parts that is the call's own, from a block on. -/
def OwnsP (w : World) (base : Nat) (v : Value) (ps : List Pt) : Prop := w.ownsRow base 28 3 v ps.length (ps.flatMap cellsP)
theorem OwnsP.nil (w : World) (base : Nat) : OwnsP w base (.slice none 0 0) [] := World.ownsRow_nil ..
theorem OwnsP.snoc {w' : World} {base : Nat} {v' : Value} {ps : List Pt} {p : Pt} (h : w'.ownsRow base 28 3 v' (ps.length + 1) (ps.flatMap cellsP ++ [.bool p.t, .string p.s, .int .u64 p.n])) : OwnsP w' base v' (ps ++ [p]) := by
  unfold OwnsP
  rw [List.length_append, List.flatMap_append, List.flatMap_singleton]
  exact h
theorem cellsP_at (ps : List Pt) (i : Nat) (h : i < ps.length) : (ps.flatMap cellsP)[i * 3]? = some (.bool (ps.getD i pd).t) ∧ (ps.flatMap cellsP)[i * 3 + 1]? = some (.string (ps.getD i pd).s) ∧ (ps.flatMap cellsP)[i * 3 + 2]? = some (.int .u64 (ps.getD i pd).n) := by
  induction ps generalizing i with
  | nil => simp at h
  | cons p ps ih =>
    cases i with
    | zero => simp [cellsP]
    | succ i =>
      have hi : i < ps.length := by simpa using h
      obtain ⟨h0, h1, h2⟩ := ih i hi
      rw [List.getD_cons_succ, List.flatMap_cons]
      have e : ∀ j, (cellsP p ++ ps.flatMap cellsP)[(i + 1) * 3 + j]? = (ps.flatMap cellsP)[i * 3 + j]? := by
        intro j
        rw [List.getElem?_append_right (by simp [cellsP]; omega)]
        congr 1
        simp [cellsP]; omega
      exact ⟨(e 0).trans h0, (e 1).trans h1, (e 2).trans h2⟩
/-- What is the call's own lies in memory. -/
theorem OwnsP.sees {w : World} {base : Nat} {v : Value} {ps : List Pt} (h : OwnsP w base v ps) : SeesP w v ps := by
  have hl := h.1
  rcases h.2 with ⟨rfl, h0⟩ | ⟨g, cap, cur, rfl, hb, hg, hnc, hcm, hcs, htake⟩
  · exact Or.inl ⟨List.eq_nil_of_length_eq_zero h0, none, 0, rfl⟩
  · have hcell := h.cells (g := g) rfl
    refine Or.inr ⟨g, 0, cap, rfl, ?_, fun i hi => ?_⟩
    · rcases Nat.lt_or_ge g w.heap.size with hlt | hge
      · exact hlt
      · rw [Array.getElem?_eq_none hge] at hg; cases hg
    · obtain ⟨h0, h1, h2⟩ := cellsP_at ps i hi
      have e : ∀ j, (⟨g, 0, none⟩ : Addr).add j = ⟨g, j, none⟩ := fun j => by unfold Addr.add; split <;> simp_all
      have c0 := hcell _ _ h0
      have c1 := hcell _ _ h1
      have c2 := hcell _ _ h2
      rw [e] at c0 c1 c2
      exact ⟨by rw [Nat.zero_add]; exact c0, by rw [Nat.zero_add]; exact c1, by rw [Nat.zero_add]; exact c2⟩

/-- The parts whose key bytes are. -/
def prs : Nat → List UInt8 → Option (List Pt)
  | _, [] => some []
  | 0, _ :: _ => none
  | f + 1, b :: r => match rp (b :: r) with
    | none => none
    | some (p, k) => (prs f ((b :: r).drop k)).map (p :: ·)

theorem rp_le {l : List UInt8} {p : Pt} {k : Nat} (h : rp l = some (p, k)) : 1 ≤ k ∧ k ≤ l.length ∧ p.n < 18446744073709551616 := by
  cases l with
  | nil => cases h
  | cons b r =>
    by_cases h1 : b = 1
    · subst h1
      rw [rp_one, Option.map_eq_some_iff] at h
      obtain ⟨x, hx, h⟩ := h
      simp only [Prod.mk.injEq] at h
      obtain ⟨rfl, rfl⟩ := h
      have := Nm.row_rv hx
      simp only [List.length_cons]
      omega
    · by_cases h2 : b = 2
      · subst h2
        rw [rp_two, Option.map_eq_some_iff] at h
        obtain ⟨x, hx, h⟩ := h
        simp only [Prod.mk.injEq] at h
        obtain ⟨rfl, rfl⟩ := h
        have := rtx_le _ _ (Nat.le_refl _) x hx
        simp only [List.length_cons]
        omega
      · rw [rp_bad _ _ h1 h2] at h; cases h

theorem prs_fuel : ∀ (f : Nat) (l : List UInt8), l.length ≤ f → prs f l = prs l.length l
  | f, [], _ => by cases f <;> rfl
  | 0, _ :: _, h => by simp at h
  | f + 1, b :: r, h => by
    rw [List.length_cons, prs, prs]
    cases hr : rp (b :: r) with
    | none => rfl
    | some x =>
      obtain ⟨p, k⟩ := x
      have hk := rp_le hr
      have hd : ((b :: r).drop k).length ≤ r.length := by rw [List.length_drop, List.length_cons]; omega
      simp only
      rw [prs_fuel f _ (by simp at h; omega), prs_fuel r.length _ hd]

/-- The parts of a key. -/
def prl (l : List UInt8) : Option (List Pt) := prs l.length l
theorem prl_nil : prl [] = some [] := rfl
theorem prl_none {l : List UInt8} (h : l ≠ []) (hr : rp l = none) : prl l = none := by
  cases l with
  | nil => exact absurd rfl h
  | cons b r => unfold prl; rw [List.length_cons, prs, hr]
theorem prl_some {l : List UInt8} {p : Pt} {k : Nat} (hr : rp l = some (p, k)) : prl l = (prl (l.drop k)).map (p :: ·) := by
  cases l with
  | nil => cases hr
  | cons b r =>
    have hk := rp_le hr
    unfold prl
    rw [List.length_cons, prs, hr]
    simp only
    rw [prs_fuel r.length _ (by rw [List.length_drop, List.length_cons]; omega)]

/-- Parts were read, or none. -/
def PartsRead (o : Option (List Pt)) (w : World) (e : Ending) (w' : World) : Prop :=
  Below w.heap.size w w' ∧ ((o = none ∧ e = .returned (.tuple #[.slice none 0 0, .bool false])) ∨ ∃ ps v, o = some ps ∧ e = .returned (.tuple #[v, .bool true]) ∧ OwnsP w' w.heap.size v ps)

theorem isEmpty_of_nil {s : ByteArray} (h : s.size = 0) : s.toList.isEmpty = true := by rw [empty_of_size h, ByteArray.toList_eq]; rfl

set_option maxHeartbeats 2000000 in
theorem parts_any (s : ByteArray) (w : World) (hs : s.size ≤ 1000000000) :
    Calls Try.prog 9 #[.string s] w (PartsRead (prl s.data.toList) w) := by
  obtain ⟨i0, hi, hz0, hz1, hz2⟩ := info_parts info_part
  have HS := Lib.hid hs; clear hs
  generalize hR : prl s.data.toList = R
  have H0 : Hid (R = (prl s.data.toList).map ([] ++ ·)) := by rw [hR]; exact Lib.hid (by simp)
  clear hR
  go_enter Try.func9, Try.ntmps9
  go_wp2_with fail
  go_loopw [0, 4] (fun x u wr => ∃ (S : ByteArray) (ps : List Pt), x = .string S ∧ ps.length + S.size ≤ s.size ∧ R = (prl S.data.toList).map (ps ++ ·) ∧ OwnsP wr w.heap.size u ps ∧ Below w.heap.size w wr) (fun x _ _ => match x with | .string S => S.size | _ => 0)
  case atStart => exact ⟨s, [], rfl, by simp, H0.out, OwnsP.nil _ _, Below.refl _ _⟩
  case round =>
    obtain ⟨S, ps, rfl, hlen, hR, hown, hbel⟩ := hrel
    have HR := Lib.hid hR; clear hR H0
    have hsz := hbel.size
    have HLEN := Lib.hid hlen; clear hlen
    by_cases h0 : S.size = 0
    · have he := isEmpty_of_nil h0
      have HE : Hid (R = some ps) := by
        rw [HR.out, empty_of_size h0]
        exact Lib.hid (by show Option.map (ps ++ ·) (some []) = _; simp)
      clear h0
      go_wp2_with fail
      go_ret2
      exact ⟨hbel, Or.inr ⟨_, _, HE.out, rfl, hown⟩⟩
    · have h1 : 1 ≤ S.size := by omega
      have he := isEmpty_of_size h1
      clear h0
      have HNE : Hid (S.data.toList ≠ []) := fun e => by have := length_list S; rw [e] at this; simp at this; omega
      go_wp2_with fail
      refine (readPart_any S _ (by have := HS.out; have := HLEN.out; omega) h1).mono ?_
      rintro e w1 ⟨⟨t, x, n, k, rfl, hpk⟩, hb1⟩
      cases hrp : rp S.data.toList with
      | none =>
        have HE : Hid (R = none) := by rw [HR.out, prl_none HNE.out hrp]; exact rfl
        unfold rpT partV
        rw [Option.isSome_none]
        clear hrp hpk
        go_wp2_with fail
        go_ret2
        exact ⟨Below.alloc (hbel.trans (hb1.mono hsz)) (by have := hb1.size; omega) _, Or.inl ⟨HE.out, rfl⟩⟩
      | some y =>
        obtain ⟨p, j⟩ := y
        obtain ⟨rfl, rfl, rfl, rfl⟩ := hpk p j hrp
        have hj := rp_le hrp
        have HE : Hid (R = (prl (S.data.toList.drop j)).map ((ps ++ [p]) ++ ·)) := by
          rw [HR.out, prl_some hrp, Option.map_map]
          exact Lib.hid (by congr 1; funext z; simp)
        unfold rpT partV
        rw [Option.isSome_some]
        rw [length_list] at hj
        clear hrp hpk
        obtain ⟨hj1, hj2, hj3⟩ := hj
        have hj1' : (1 : Int) ≤ j := by omega
        have hj2' : (j : Int) ≤ S.size := by omega
        have hb2 := hbel.trans (hb1.mono hsz)
        have hsz1 := hb2.size
        have hraw : w1.ownsRow w.heap.size 28 3 u4 ps.length (ps.flatMap cellsP) := ownsRow_below hown hb1
        clear hown hbel hb1
        have HPL : Hid (ps.length ≤ 1000000000) := by have := HLEN.out; have := HS.out; exact Lib.hid (by omega)
        go_wp2_with (at_builtin; go_must (refine wpList_append_own _ rfl _ _ 22 rfl w.heap.size 28 i0 _ 3 32 Try.underlying22 hi hz0 hz1 hz2 rfl (by decide) _ _ _ rfl ((hraw.alloc _).alloc _) ⟨w1.heap.size + 1, 0, none⟩ 1 1 [_, _, _] rfl rfl (World.news_of_block (cs := #[_, _, _]) (fr := (0, 0)) (heap_new2 w1 _ _)) ?c2 ?c3 ?c4 ?c5 ?_))
        case c2 => intro u hu; simp at hu; rcases hu with hu | hu | hu <;> subst hu <;> rfl
        case c3 => have := HPL.out; unfold maxLen; omega
        case c4 => have := HPL.out; omega
        case c5 => simp; omega
        intro v2 w2 hown2 hgrow2 _
        have R1 : OwnsP w2 w.heap.size v2 (ps ++ [p]) ∧ Below w.heap.size w w2 :=
          ⟨OwnsP.snoc hown2, ((hb2.alloc hsz1 _).alloc (by simp; omega) _).grown hgrow2 (by simp; omega) (fun q hq => (hraw.lt q hq).1)⟩
        clear hown2 hgrow2 hraw
        go_wp2_with fail
        go_roundw
        case rel => exact ⟨_, ps ++ [p], rfl, by have := HLEN.out; rw [List.length_append, List.length_singleton, ByteArray.size_extract]; omega, by rw [HE.out, Lib.extract_to_end], R1.1, R1.2⟩
        case measure => simp only [ByteArray.size_extract]; omega

end Go.Proofs.Ytognddehcfjiaaa
