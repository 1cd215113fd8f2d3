/- The walk of block's Finish. -/
import Derived.Test.YtjpmcphfiiiecaaBoA
import Derived.Deep.RegionHeld3
import Derived.Test.YtjpmcphfiiiecaaRefTextT
namespace Go.Proofs.Ytjpmcphfiiiecaa.Bo
open Go Go.RowKit
set_option linter.unusedVariables false

/-- What a region that reads a builder uses of it. -/
structure Reads (w0 : World) (base : Nat) (b : Nat) (rv fv : Value) (s : St) (w' : World) : Prop where
  h : Built w' base ⟨b, rv, fv⟩ s
  hb : Below w0.heap.size w0 w'
theorem Reads.facts {w0 w' : World} {base b : Nat} {rv fv : Value} {s : St} (h : Reads w0 base b rv fv s w') :
    w'.cell? ⟨b, 0, none⟩ = some rv ∧ w'.cell? ⟨b, 1, none⟩ = some fv ∧ w'.cell? ⟨b, 2, none⟩ = some (.int .i64 (s.n : Int)) ∧
    (convert 22 9 rv).run Try.prog w' = .ok (.string ⟨s.rows.toArray⟩) w' ∧ (convert 22 9 fv).run Try.prog w' = .ok (.string ⟨s.foot.toArray⟩) w' ∧ Reads w0 base b rv fv s w' :=
  ⟨h.h.c0, h.h.c1, h.h.c2, h.h.rows.convert, h.h.foot.convert, h⟩

/-- The same, as the region's walk spells it. -/
abbrev RS (w0 : World) (base b : Nat) (a a2 : Option Addr) (ca cb : Nat) (RT FT : ByteArray) (s : St) (w' : World) : Prop :=
  w'.cell? ⟨b, 0, none⟩ = some (.slice a s.rows.length ca) ∧ w'.cell? ⟨b, 1, none⟩ = some (.slice a2 s.foot.length cb) ∧ w'.cell? ⟨b, 2, none⟩ = some (.int .i64 (s.n : Int)) ∧
      (convert 22 9 (.slice a s.rows.length ca)).run Try.prog w' = .ok (.string RT) w' ∧ (convert 22 9 (.slice a2 s.foot.length cb)).run Try.prog w' = .ok (.string FT) w' ∧ Reads w0 base b (.slice a s.rows.length ca) (.slice a2 s.foot.length cb) s w'
theorem RS.of {w0 w' : World} {base b : Nat} {a a2 : Option Addr} {ca cb : Nat} {RT FT : ByteArray} {s : St} (h1 : Hid ((⟨s.rows.toArray⟩ : ByteArray) = RT)) (h2 : Hid ((⟨s.foot.toArray⟩ : ByteArray) = FT)) (h : Reads w0 base b (.slice a s.rows.length ca) (.slice a2 s.foot.length cb) s w') : RS w0 base b a a2 ca cb RT FT s w' := by
  have := h.facts
  rw [h1.out, h2.out] at this
  exact this
theorem RS.reads {w0 w' : World} {base b : Nat} {a a2 : Option Addr} {ca cb : Nat} {RT FT : ByteArray} {s : St} (h : RS w0 base b a a2 ca cb RT FT s w') : Reads w0 base b (.slice a s.rows.length ca) (.slice a2 s.foot.length cb) s w' := h.2.2.2.2.2
theorem Reads.drew {w0 w' : World} {base b : Nat} {rv fv : Value} {s : St} (h : Reads w0 base b rv fv s w') : Reads w0 base b rv fv s w'.drew := ⟨h.h.drew, h.hb.drew⟩
theorem Reads.call {w0 w' w2 : World} {base b : Nat} {rv fv : Value} {s : St} (h : Reads w0 base b rv fv s w') (hb : Below w'.heap.size w' w2) : Reads w0 base b rv fv s w2 := ⟨h.h.below hb, h.hb.trans (hb.mono h.hb.size)⟩

abbrev set4 (w : World) (b : Nat) (x y u v : Value) : World := (((w.setCell ⟨b, 0, none⟩ x).setCell ⟨b, 1, none⟩ y).setCell ⟨b, 2, none⟩ u).setCell ⟨b, 3, none⟩ v
theorem set4_heap {w : World} {b : Nat} {x0 y0 u0 v0 : Value} (x y u v : Value) {t : TypeId} (h : w.heap[b]? = some (.cells #[x0, y0, u0, v0] t (0, 0))) : (set4 w b x y u v).heap[b]? = some (.cells #[x, y, u, v] t (0, 0)) := by
  have h1 := heap_setCell_same w b 0 _ _ x h
  have h2 := heap_setCell_same _ b 1 _ _ y h1
  have h3 := heap_setCell_same _ b 2 _ _ u h2
  exact heap_setCell_same _ b 3 _ _ v h3
theorem set4_turns (w : World) (b : Nat) (x y u v : Value) : Turns (fun k => k = b) w (set4 w b x y u v) :=
  (((Turns.of_setCell (P := fun k => k = b) w ⟨b, 0, none⟩ x rfl).trans (Turns.of_setCell (P := fun k => k = b) _ ⟨b, 1, none⟩ y rfl) (fun _ h => Or.inl h)).trans (Turns.of_setCell (P := fun k => k = b) _ ⟨b, 2, none⟩ u rfl) (fun _ h => Or.inl h)).trans (Turns.of_setCell (P := fun k => k = b) _ ⟨b, 3, none⟩ v rfl) (fun _ h => Or.inl h)
/-- An empty builder is stored. -/
theorem Built.clear {w : World} {base : Nat} {L : BL} {s : St} (h : Built w base L s) : GoesB base L w st0 (set4 w L.b (.slice none 0 0) (.slice none 0 0) (.int .i64 0) (.string ⟨#[]⟩)) :=
  ⟨⟨L.b, .slice none 0 0, .slice none 0 0⟩, rfl, ⟨set4_heap _ _ _ _ h.box, Owns.nil _ _, Owns.nil _ _, fun k hk => by simp [Value.ownBlock] at hk, h.low⟩, (set4_turns _ _ _ _ _ _).mono (fun x hx => Or.inl (Or.inl hx)), fun k hk => by
    rcases hk with hk | hk | hk
    · exact Or.inl (Or.inl hk)
    · simp [Value.ownBlock] at hk
    · simp [Value.ownBlock] at hk⟩

set_option maxHeartbeats 2000000 in
set_option maxRecDepth 100000 in
theorem finish_any {w : World} {base : Nat} {L : BL} {s : St} (h : Built w base L s) (h1 : s.rows.length ≤ 100000000000) (h2 : s.foot.length ≤ 100000000000) (h3 : s.n < 4294967296) :
    Calls Try.prog 12 #[.pointer (some ⟨L.b, 0, none⟩)] w fun e w' => e = .returned (.string ⟨(fin s).toArray⟩) ∧ GoesB base L w st0 w' := by
  obtain ⟨b, rv, fv⟩ := L
  obtain ⟨⟨a, ca, ea⟩, a2, cb, eb⟩ := h.shapes
  dsimp only at ea eb
  subst ea eb
  have HP := Lib.hid (fun W => placeRow_any s.n W h3)
  have hr0 : Reads w base b (.slice a s.rows.length ca) (.slice a2 s.foot.length cb) s w := ⟨h, Below.refl _ _⟩
  have HE : Hid ((⟨(fin s).toArray⟩ : ByteArray) = (⟨s.rows.toArray⟩ : ByteArray) ++ ⟨s.foot.toArray⟩ ++ place s.n) := Lib.hid (by unfold fin place; rw [mk_app, mk_app, List.append_assoc])
  have hz1 : (⟨s.rows.toArray⟩ : ByteArray).size ≤ 100000000000 := by show s.rows.toArray.size ≤ _; rw [List.size_toArray]; exact h1
  have hz2 : (⟨s.foot.toArray⟩ : ByteArray).size ≤ 100000000000 := by show s.foot.toArray.size ≤ _; rw [List.size_toArray]; exact h2
  have hz3 := place_size s.n
  have hadd1 : ¬ 9223372036854775807 < (⟨s.rows.toArray⟩ : ByteArray).size + (⟨s.foot.toArray⟩ : ByteArray).size := by omega
  have hadd2 : ¬ 9223372036854775807 < ((⟨s.rows.toArray⟩ : ByteArray) ++ ⟨s.foot.toArray⟩).size + (place s.n).size := by rw [ByteArray.size_append]; omega
  have hadd3 : ¬ 9223372036854775807 < (⟨s.rows.toArray⟩ : ByteArray).size + (⟨s.foot.toArray⟩ : ByteArray).size + (place s.n).size := by omega
  have hadd4 : ¬ (9223372036854775807 : Int) < ((⟨s.rows.toArray⟩ : ByteArray).size : Int) + ((⟨s.foot.toArray⟩ : ByteArray).size : Int) + ((place s.n).size : Int) := by omega
  clear h1 h2 h3 hz1 hz2 hz3
  have hS := hr0.facts
  generalize place s.n = PL at *
  generalize hRT : (⟨s.rows.toArray⟩ : ByteArray) = RT at *
  generalize hFT : (⟨s.foot.toArray⟩ : ByteArray) = FT at *
  have HRT := Lib.hid hRT; have HFT := Lib.hid hFT
  have HH := Lib.hid h
  clear hRT hFT h
  obtain ⟨c0, c1, c2, k0, k1, -⟩ := hS
  go_enter Try.func12, Try.ntmps12
  go_wp2_with fail
  go_region_held3 (fun w' => w'.cell? ⟨b, 0, none⟩ = some (.slice a s.rows.length ca) ∧ w'.cell? ⟨b, 1, none⟩ = some (.slice a2 s.foot.length cb) ∧ w'.cell? ⟨b, 2, none⟩ = some (.int .i64 (s.n : Int)) ∧
      (convert 22 9 (.slice a s.rows.length ca)).run Try.prog w' = .ok (.string RT) w' ∧ (convert 22 9 (.slice a2 s.foot.length cb)).run Try.prog w' = .ok (.string FT) w' ∧ Reads w base b (.slice a s.rows.length ca) (.slice a2 s.foot.length cb) s w')
    (first | exact RS.of HRT HFT hr0.drew | exact RS.of HRT HFT (Reads.call (RS.reads (by assumption)) hb4))
    (first | (go_at_call 25; refine (HP.out _).mono ?_; rintro x w4 ⟨rfl, hb4⟩))
  have hR : Reads w base b (.slice a s.rows.length ca) (.slice a2 s.foot.length cb) s w4 := RS.reads (by assumption)
  have d0 := hR.h.c0
  have d1 := hR.h.c1
  have d2 := hR.h.c2
  have d3 := hR.h.c3
  have f0 := hR.h.soft 0
  have f1 := hR.h.soft 1
  have f2 := hR.h.soft 2
  have f3 := hR.h.soft 3
  have hG := hR.h.clear
  have hB := hR.hb
  have HB := Lib.hid hB
  have HG := Lib.hid hG
  clear hR hr0 hB hG c0 c1 c2 k0 k1
  go_wp2_with fail
  go_ret
  rw [HE.out]
  refine ⟨rfl, ?_⟩
  exact GoesB.trans (L1 := ⟨b, .slice a s.rows.length ca, .slice a2 s.foot.length cb⟩) rfl (Turns.of_below HB.out) (fun k hk => Or.inl hk) HG.out
end Go.Proofs.Ytjpmcphfiiiecaa.Bo
