/- Texts on the program's own functions, several in one: BnBoB, BnOkeyD, BnOkeyF, BnOkeyG, BnOkeyH, TbOk. -/
import Derived.Test.YtphoihkbdogkhaaDoorPk6
import Derived.Deep.RegionHeld3
import Derived.Test.YtphoihkbdogkhaaDoorPk7
import Derived.Test.YtphoihkbdogkhaaDoorPk5
import Derived.Lib.AppendStr
import Derived.Deep.AppendLies
import Derived.Test.YtphoihkbdogkhaaDoorPk1

/- The walk of block's Finish. -/
namespace Go.Proofs.YtphoihkbdogkhaaDoor.Bn.Bo
set_option maxRecDepth 100000
open Go Go.RowKit
set_option linter.unusedVariables false

/-- What a region that reads a builder uses of it. -/
structure Reads (w0 : World) (base : Nat) (se : Seat) (rv fv : Value) (s : St) (w' : World) : Prop where
  h : Built w' base ⟨se, rv, fv⟩ s
  hb : Below w0.heap.size w0 w'
theorem Reads.facts {w0 w' : World} {base : Nat} {se : Seat} {rv fv : Value} {s : St} (h : Reads w0 base se rv fv s w') :
    w'.cell? ⟨se.b, se.o, none⟩ = some rv ∧ w'.cell? ⟨se.b, se.o + 1, none⟩ = some fv ∧ w'.cell? ⟨se.b, se.o + 2, none⟩ = some (.int .i64 (s.n : Int)) ∧
    (convert 34 9 rv).run Tryd.prog w' = .ok (.string ⟨s.rows.toArray⟩) w' ∧ (convert 34 9 fv).run Tryd.prog w' = .ok (.string ⟨s.foot.toArray⟩) w' ∧ Reads w0 base se rv fv s w' :=
  ⟨h.h.c0, h.h.c1, h.h.c2, h.h.rows.convert, h.h.foot.convert, h⟩

/-- The same, as the region's walk spells it. -/
abbrev RS (w0 : World) (base : Nat) (se : Seat) (a a2 : Option Addr) (ca cb : Nat) (RT FT : ByteArray) (s : St) (w' : World) : Prop :=
  w'.cell? ⟨se.b, se.o, none⟩ = some (.slice a s.rows.length ca) ∧ w'.cell? ⟨se.b, se.o + 1, none⟩ = some (.slice a2 s.foot.length cb) ∧ w'.cell? ⟨se.b, se.o + 2, none⟩ = some (.int .i64 (s.n : Int)) ∧
      (convert 34 9 (.slice a s.rows.length ca)).run Tryd.prog w' = .ok (.string RT) w' ∧ (convert 34 9 (.slice a2 s.foot.length cb)).run Tryd.prog w' = .ok (.string FT) w' ∧ Reads w0 base se (.slice a s.rows.length ca) (.slice a2 s.foot.length cb) s w'
theorem RS.of {w0 w' : World} {base : Nat} {se : Seat} {a a2 : Option Addr} {ca cb : Nat} {RT FT : ByteArray} {s : St} (h1 : Hid ((⟨s.rows.toArray⟩ : ByteArray) = RT)) (h2 : Hid ((⟨s.foot.toArray⟩ : ByteArray) = FT)) (h : Reads w0 base se (.slice a s.rows.length ca) (.slice a2 s.foot.length cb) s w') : RS w0 base se a a2 ca cb RT FT s w' := by
  have := h.facts
  rw [h1.out, h2.out] at this
  exact this
theorem RS.reads {w0 w' : World} {base : Nat} {se : Seat} {a a2 : Option Addr} {ca cb : Nat} {RT FT : ByteArray} {s : St} (h : RS w0 base se a a2 ca cb RT FT s w') : Reads w0 base se (.slice a s.rows.length ca) (.slice a2 s.foot.length cb) s w' := h.2.2.2.2.2
theorem Reads.drew {w0 w' : World} {base : Nat} {se : Seat} {rv fv : Value} {s : St} (h : Reads w0 base se rv fv s w') : Reads w0 base se rv fv s w'.drew := ⟨h.h.drew, h.hb.drew⟩
theorem Reads.call {w0 w' w2 : World} {base : Nat} {se : Seat} {rv fv : Value} {s : St} (h : Reads w0 base se rv fv s w') (hb : Below w'.heap.size w' w2) : Reads w0 base se rv fv s w2 := ⟨h.h.below hb, h.hb.trans (hb.mono h.hb.size)⟩

abbrev set4 (w : World) (se : Seat) (x y u v : Value) : World := (((w.setCell ⟨se.b, se.o, none⟩ x).setCell ⟨se.b, se.o + 1, none⟩ y).setCell ⟨se.b, se.o + 2, none⟩ u).setCell ⟨se.b, se.o + 3, none⟩ v
theorem set4_heap {w : World} {se : Seat} {x0 y0 u0 v0 : Value} (x y u v : Value) (h : w.heap[se.b]? = some (se.obj x0 y0 u0 v0)) : (set4 w se x y u v).heap[se.b]? = some (se.obj x y u v) :=
  se.put3 v (se.put2 u (se.put1 y (se.put0 x h)))
theorem set4_turns (w : World) (se : Seat) (x y u v : Value) : Turns (fun k => k = se.b) w (set4 w se x y u v) :=
  (((Turns.of_setCell (P := fun k => k = se.b) w ⟨se.b, se.o, none⟩ x rfl).trans (Turns.of_setCell (P := fun k => k = se.b) _ ⟨se.b, se.o + 1, none⟩ y rfl) (fun _ h => Or.inl h)).trans (Turns.of_setCell (P := fun k => k = se.b) _ ⟨se.b, se.o + 2, none⟩ u rfl) (fun _ h => Or.inl h)).trans (Turns.of_setCell (P := fun k => k = se.b) _ ⟨se.b, se.o + 3, none⟩ v rfl) (fun _ h => Or.inl h)
/-- An empty builder is stored. -/
theorem Built.clear {w : World} {base : Nat} {L : BL} {s : St} (h : Built w base L s) : GoesB base L w st0 (set4 w L.se (.slice none 0 0) (.slice none 0 0) (.int .i64 0) (.string ⟨#[]⟩)) :=
  ⟨⟨L.se, .slice none 0 0, .slice none 0 0⟩, rfl, ⟨set4_heap _ _ _ _ h.box, Owns.nil _ _, Owns.nil _ _, fun k hk => by simp [Value.ownBlock] at hk, h.low⟩, (set4_turns _ _ _ _ _ _).mono (fun x hx => Or.inl (Or.inl hx)), fun k hk => by
    rcases hk with hk | hk | hk
    · exact Or.inl (Or.inl hk)
    · simp [Value.ownBlock] at hk
    · simp [Value.ownBlock] at hk⟩

set_option maxHeartbeats 2000000 in
set_option maxRecDepth 100000 in
theorem finish_any {w : World} {base : Nat} {L : BL} {s : St} (h : Built w base L s) (h1 : s.rows.length ≤ 100000000000) (h2 : s.foot.length ≤ 100000000000) (h3 : s.n < 4294967296) :
    Calls Tryd.prog 51 #[.pointer (some ⟨L.se.b, L.se.o, none⟩)] w fun e w' => e = .returned (.string ⟨(fin s).toArray⟩) ∧ GoesB base L w st0 w' := by
  obtain ⟨se, rv, fv⟩ := L
  obtain ⟨⟨a, ca, ea⟩, a2, cb, eb⟩ := h.shapes
  dsimp only at ea eb
  subst ea eb
  have HP := Lib.hid (fun W => placeRow_any s.n W h3)
  have hr0 : Reads w base se (.slice a s.rows.length ca) (.slice a2 s.foot.length cb) s w := ⟨h, Below.refl _ _⟩
  have HE : Hid ((⟨(fin s).toArray⟩ : ByteArray) = (⟨s.rows.toArray⟩ : ByteArray) ++ ⟨s.foot.toArray⟩ ++ place s.n) := Lib.hid (by unfold fin place; rw [mk_app, mk_app, List.append_assoc])
  have hz1 : (⟨s.rows.toArray⟩ : ByteArray).size ≤ 100000000000 := by show s.rows.toArray.size ≤ _; rw [List.size_toArray]; exact h1
  have hz2 : (⟨s.foot.toArray⟩ : ByteArray).size ≤ 100000000000 := by show s.foot.toArray.size ≤ _; rw [List.size_toArray]; exact h2
  have hz3 := place_size s.n
  have hadd1 : ¬ 9223372036854775807 < (⟨s.rows.toArray⟩ : ByteArray).size + (⟨s.foot.toArray⟩ : ByteArray).size := by omega
  have hadd2 : ¬ 9223372036854775807 < ((⟨s.rows.toArray⟩ : ByteArray) ++ ⟨s.foot.toArray⟩).size + (place s.n).size := by rw [ByteArray.size_append]; omega
  have hadd3 : ¬ 9223372036854775807 < (⟨s.rows.toArray⟩ : ByteArray).size + (⟨s.foot.toArray⟩ : ByteArray).size + (place s.n).size := by omega
  have hadd4 : ¬ (9223372036854775807 : Int) < ((⟨s.rows.toArray⟩ : ByteArray).size : Int) + ((⟨s.foot.toArray⟩ : ByteArray).size : Int) + ((place s.n).size : Int) := by omega
  clear h1 h2 h3 hz1 hz2 hz3
  have hS := hr0.facts
  generalize place s.n = PL at *
  generalize hRT : (⟨s.rows.toArray⟩ : ByteArray) = RT at *
  generalize hFT : (⟨s.foot.toArray⟩ : ByteArray) = FT at *
  have HRT := Lib.hid hRT; have HFT := Lib.hid hFT
  have HH := Lib.hid h
  clear hRT hFT h
  obtain ⟨c0, c1, c2, k0, k1, -⟩ := hS
  go_enter Tryd.func51, Tryd.ntmps51
  go_wp2_with fail
  go_region_held3 (fun w' => w'.cell? ⟨se.b, se.o, none⟩ = some (.slice a s.rows.length ca) ∧ w'.cell? ⟨se.b, se.o + 1, none⟩ = some (.slice a2 s.foot.length cb) ∧ w'.cell? ⟨se.b, se.o + 2, none⟩ = some (.int .i64 (s.n : Int)) ∧
      (convert 34 9 (.slice a s.rows.length ca)).run Tryd.prog w' = .ok (.string RT) w' ∧ (convert 34 9 (.slice a2 s.foot.length cb)).run Tryd.prog w' = .ok (.string FT) w' ∧ Reads w base se (.slice a s.rows.length ca) (.slice a2 s.foot.length cb) s w')
    (first | exact RS.of HRT HFT hr0.drew | exact RS.of HRT HFT (Reads.call (RS.reads (by assumption)) hb4))
    (first | (go_at_call 56; refine (HP.out _).mono ?_; rintro x w4 ⟨rfl, hb4⟩))
  have hR : Reads w base se (.slice a s.rows.length ca) (.slice a2 s.foot.length cb) s w4 := RS.reads (by assumption)
  have d0 := hR.h.c0
  have d1 := hR.h.c1
  have d2 := hR.h.c2
  have d3 := hR.h.c3
  have f0 := hR.h.soft0
  have f1 := hR.h.soft 1
  have f2 := hR.h.soft 2
  have f3 := hR.h.soft 3
  have hG := hR.h.clear
  have hB := hR.hb
  have HB := Lib.hid hB
  have HG := Lib.hid hG
  clear hR hr0 hB hG c0 c1 c2 k0 k1
  go_wp2_with fail
  go_ret
  rw [HE.out]
  refine ⟨rfl, ?_⟩
  exact GoesB.trans (L1 := ⟨se, .slice a s.rows.length ca, .slice a2 s.foot.length cb⟩) rfl (Turns.of_below HB.out) (fun k hk => Or.inl hk) HG.out
end Go.Proofs.YtphoihkbdogkhaaDoor.Bn.Bo

/- Walks of okey.appendKey, Key, Range. -/
namespace Go.Proofs.YtphoihkbdogkhaaDoor.Bn
set_option maxRecDepth 100000
open Go.RowKit

/-- A part's bytes. -/
def ptl (p : Pt) : List UInt8 := if p.t = true then 2 :: (esc p.s.data.toList ++ [0, 1]) else 1 :: Nm.row p.n
/-- A list's key. -/
def keyl (ps : List Pt) : List UInt8 := ps.flatMap ptl
/-- How many bytes the texts of parts have. -/
def sizl : List Pt → Nat
  | [] => 0
  | p :: ps => p.s.size + sizl ps
theorem sizl_take : ∀ (ps : List Pt) (k : Nat), sizl (ps.take k) ≤ sizl ps
  | [], k => by simp [sizl]
  | s :: ss, 0 => by simp [sizl]
  | s :: ss, k + 1 => by have := sizl_take ss k; simp only [List.take_succ_cons, sizl]; omega
theorem sizl_snoc : ∀ (ps : List Pt) (k : Nat), k < ps.length → sizl (ps.take (k + 1)) = sizl (ps.take k) + (ps.getD k pd).s.size
  | [], k, h => by simp at h
  | s :: ss, 0, _ => by simp [sizl]
  | s :: ss, k + 1, h => by
    have := sizl_snoc ss k (by simpa using h)
    rw [List.take_succ_cons, List.take_succ_cons, sizl, sizl, this, List.getD_cons_succ]
    omega
theorem ptl_length (p : Pt) : (ptl p).length ≤ 10 + 2 * p.s.size := by
  unfold ptl
  split
  · have := esc_length p.s.data.toList
    rw [length_list] at this
    simp only [List.length_cons, List.length_append, List.length_nil]
    omega
  · have := (Nm.row_length p.n).2
    simp only [List.length_cons]
    omega
theorem keyl_length (ps : List Pt) : (keyl ps).length ≤ 10 * ps.length + 2 * sizl ps := by
  induction ps with
  | nil => simp [keyl]
  | cons p ps ih =>
    have := ptl_length p
    simp only [keyl, List.flatMap_cons, List.length_append, List.length_cons, sizl] at ih ⊢
    omega
theorem keyl_snoc (ps : List Pt) (k : Nat) (h : k < ps.length) : keyl (ps.take (k + 1)) = keyl (ps.take k) ++ ptl (ps.getD k pd) := by
  have e : ps.getD k pd = ps[k] := by simp [h]
  unfold keyl
  rw [List.take_succ_eq_append_getElem h, List.flatMap_append, e, List.flatMap_singleton]

theorem seesU_one {w : World} {B n : Nat} (h : w.heap[B]? = some (.cells #[.int .u64 n] 24 (0, 0))) : SeesU w (.slice (some ⟨B, 0, none⟩) 1 1) [n] := by
  have hc : w.cell? ⟨B, 0, none⟩ = some (.int .u64 n) := by rw [cell_of_row w B 0 _ _ _ h]; rfl
  refine Or.inr ⟨B, 0, 1, rfl, World.block_lt_of_cell? w _ hc, fun i hi => ?_⟩
  match i, hi with
  | 0, _ => exact hc
theorem one_lt {n : Nat} (h : n < 18446744073709551616) (i : Nat) : [n].getD i 0 < 18446744073709551616 := by
  match i with
  | 0 => exact h
  | _ + 1 => simp
theorem varl_one (n : Nat) : varl [n] = Nm.row n := by simp [varl]
theorem ownsRow_below {w w' : World} {base : Nat} {e : TypeId} {z n : Nat} {v : Value} {xs : List Value} (h : w.ownsRow base e z v n xs) (hb : Below w.heap.size w w') : w'.ownsRow base e z v n xs :=
  h.kept (row := none) ⟨hb.os, hb.tape, hb.output, hb.size, fun k hk _ => hb.block k hk⟩ (by cases v.ownBlock with
    | none => exact Or.inl rfl
    | some k => exact Or.inr (by simp))
theorem heap_new2 (w : World) (o o2 : Obj) : ((w.alloc o).alloc o2).heap[w.heap.size + 1]? = some o2 := by
  have := heap_alloc_new (w.alloc o) o2
  rw [World.size_alloc] at this
  exact this
theorem heap_new3 (w : World) (o o2 o3 : Obj) : (((w.alloc o).alloc o2).alloc o3).heap[w.heap.size + 1]? = some o2 := by
  rw [Below.heap_alloc _ o3 _ (by simp)]
  exact heap_new2 w o o2
theorem heap_new32 (w : World) (o o2 o3 : Obj) : (((w.alloc o).alloc o2).alloc o3).heap[w.heap.size + 2]? = some o3 := by
  have := heap_alloc_new ((w.alloc o).alloc o2) o3
  rw [World.size_alloc, World.size_alloc] at this
  exact this
theorem own_ne {v : Value} {B g H n c : Nat} (hob : v.ownBlock ≠ some B) (hat : v.ownBlock = some g ∨ g = H) (hH : B < H) : (Value.slice (some ⟨g, 0, none⟩) n c).ownBlock ≠ some B := by
  intro e
  have e2 : g = B := by simpa [Value.ownBlock] using e
  rcases hat with h | h
  · exact hob (by rw [h, e2])
  · omega
theorem grows_lies {w w1 : World} {v : Value} {g n cap H : Nat} (hg : w.grownBy w1 v.ownBlock) (hat : v.ownBlock = some g ∨ g = H) (hH : w.heap.size ≤ H := by simp) : Grows w w1 v (.slice (some ⟨g, 0, none⟩) n cap) :=
  ⟨hg, hat.imp (fun e => by rw [e]; rfl) fun e => ⟨g, rfl, by omega⟩⟩

set_option maxRecDepth 100000 in
set_option maxHeartbeats 3000000 in
theorem appendKey_any (ao : Option Addr) (len cap : Nat) (ps : List Pt) (w : World) (hA : SeesP w (.slice ao len cap) ps) (hl : len ≤ 1000000) (hz : sizl ps ≤ 1000000000) (hn : ∀ i, (ps.getD i pd).n < 18446744073709551616) :
    Calls Tryd.prog 71 #[.slice none 0 0, .slice ao len cap] w (Grew w.heap.size (keyl ps) w) := by
  obtain ⟨i0, hi, hz0, hz1, hz2⟩ := info_parts info_u8
  obtain ⟨hlen, b, off, hcell⟩ := hA.get
  clear hA
  have HC := Lib.hid hcell; have HLEN := Lib.hid hlen; have HZ := Lib.hid hz; have HN := Lib.hid hn; have HL := Lib.hid hl
  clear hcell hlen hz hn
  go_enter Tryd.func71, Tryd.ntmps71
  go_wp2_with fail
  go_loopw [0, 9] (fun u i wr => ∃ k : Nat, k ≤ len ∧ i = .int .i64 k ∧ Owns wr w.heap.size u (keyl (ps.take k)) ∧ Below w.heap.size w wr) (fun _ i _ => len - (intOf i).toNat)
  case atStart => exact ⟨0, Nat.zero_le _, rfl, by simpa [keyl] using Owns.nil w w.heap.size, Below.refl _ _⟩
  case round =>
    obtain ⟨k, hk, rfl, hown, hbel⟩ := hrel
    have hsz := hbel.size
    by_cases hlt : k < len
    · obtain ⟨rfl, hba, hpa⟩ := HC.out k hlt
      obtain ⟨c0, c1, c2⟩ := hpa.below hbel hba
      have hba' : b < wr.heap.size := by omega
      have hk' : k < ps.length := by rw [HLEN.out]; exact hlt
      have HS : Hid (keyl (ps.take (k + 1)) = keyl (ps.take k) ++ ptl (ps.getD k pd)) := keyl_snoc ps k hk'
      have hq : (keyl (ps.take k)).length + 2 * (ps.getD k pd).s.size ≤ 3000000000 := by
        have h1 := keyl_length (ps.take k)
        have h2 : (ps.take k).length ≤ k := List.length_take_le ..
        have h3 := HL.out
        have h4 := sizl_snoc ps k hk'
        have h5 := sizl_take ps (k + 1)
        have h6 := HZ.out
        omega
      have HQ := Lib.hid hq; clear hq hk'
      have HX := Lib.hid (HN.out k)
      clear hpa
      generalize ps.getD k pd = x at *
      generalize keyl (ps.take k) = T at *
      obtain ⟨xt, xs, xn⟩ := x
      have hraw : wr.ownsRow w.heap.size 5 1 u0 T.length (T.map cellOf) := hown
      have hobm : ∀ m, u0.ownBlock ≠ some (wr.heap.size + m) := fun m e => by
        have := hraw.lt _ e
        omega
      have hob : u0.ownBlock ≠ some wr.heap.size := hobm 0
      have HOB := Lib.hid hobm; clear hobm
      clear hown
      cases xt with
      | true =>
        have HS2 : Hid (keyl (ps.take (k + 1)) = T ++ [2] ++ (esc xs.data.toList ++ [0, 1])) := by rw [HS.out]; exact Lib.hid (by simp [ptl])
        dsimp only at c0 c1 c2 HX HQ
        clear HS
        go_wp2_with fail
        go_region_held3 (fun w' => w'.cell? ⟨wr.heap.size, 1, none⟩ = some (.string xs))
          (first
            | go_keep
            | (rw [hgrow.cell_far _ (by simp; omega) (Ne.symm hob)]; assumption)
            | (rw [hb2.cell (p := ⟨wr.heap.size, 1, none⟩) (by have := hgrow.size; simp at this ⊢; omega) (own_ne (B := wr.heap.size) hob hat (by omega)), hgrow.cell_far _ (by simp; omega) (Ne.symm hob)]; simp))
          (first
            | ((refine step_append_lies _ (by rfl) _ _ _ (by rfl) w.heap.size 5 i0 _ 1 1 Tryd.underlying34 hi hz0 hz1 hz2 rfl (by omega) u0 _ _ (by rfl) (((hraw.alloc _).alloc _).drew)
                  ⟨wr.heap.size + 1, 0, none⟩ 1 1 [.int .u8 2] (by rfl) (by rfl) (World.news_of_block (cs := #[.int .u8 2]) (t := 5) (fr := (0, 0)) (heap_new2 wr _ _)) (by simp [Value.oneCell'])
                  (by omega) (by have := HQ.out; unfold maxLen; omega) (by have := HQ.out; omega) (by simp; omega) (wr.heap.size + 2) (by simp) ?_; intro gg cap w1 hown1 hgrow hat hlt1))
            | ((go_at_call 92; refine (appendText_any w.heap.size _ (T ++ [2]) xs w1 (Owns.snoc hown1) (by have := hgrow.size; simp at this; omega) (by have := HQ.out; rw [List.length_append, List.length_singleton]; omega)).mono ?_; rintro e w2 ⟨v2, rfl, ho2, hb2⟩)))
        have R : Owns w2 w.heap.size v2 (keyl (ps.take (k + 1))) ∧ Below w.heap.size w w2 := by
          rw [HS2.out]
          exact ⟨ho2, ((((hbel.alloc hsz _).alloc (by simp; omega) _).drew).grown hgrow (by simp; omega) (fun j hj => (hraw.lt j hj).1)).trans (hb2.toBelow hown1 (by have := hgrow.size; simp at this; omega))⟩
        clear hown1 hgrow hat ho2 hb2 hraw
        go_wp2_with fail
        go_roundw
        case rel => exact ⟨k + 1, by omega, by go_num, R.1, R.2⟩
        case measure => simp [intOf]; omega
      | false =>
        have HS2 : Hid (keyl (ps.take (k + 1)) = T ++ [1] ++ Nm.row xn) := by rw [HS.out]; exact Lib.hid (by simp [ptl])
        dsimp only at c0 c1 c2 HX HQ
        clear HS
        go_wp2_with fail
        go_region_held3 (fun w' => w'.cell? ⟨wr.heap.size, 2, none⟩ = some (.int .u64 xn))
          (first
            | go_keep
            | (rw [hgrow2.cell_far ⟨wr.heap.size, 2, none⟩ (show wr.heap.size < w3.heap.size by have h1 := hgrow.size; have h2 := hbv.size; simp at h1 h2; omega) (Ne.symm (own_ne (B := wr.heap.size) hob hat (by omega)))]; first | assumption | simp)
            | (rw [hbv.cell (p := ⟨wr.heap.size, 2, none⟩) (by have := hgrow.size; simp at this ⊢; omega)]; first | assumption | simp)
            | (rw [hgrow.cell_far _ (by simp; omega) (Ne.symm hob)]; first | assumption | simp))
          (first
            | (refine step_append_lies _ (by rfl) _ _ _ (by rfl) w.heap.size 5 i0 _ 1 1 Tryd.underlying34 hi hz0 hz1 hz2 rfl (by omega) u0 _ _ (by rfl) (((hraw.alloc _).alloc _).drew)
                  ⟨wr.heap.size + 1, 0, none⟩ 1 1 [.int .u8 1] (by rfl) (by rfl) (World.news_of_block (cs := #[.int .u8 1]) (t := 5) (fr := (0, 0)) (heap_new2 wr _ _)) (by simp [Value.oneCell'])
                  (by omega) (by have := HQ.out; unfold maxLen; omega) (by have := HQ.out; omega) (by simp; omega) (wr.heap.size + 2) (by simp) ?_; intro gg cap w1 hown1 hgrow hat hlt1)
            | (refine step_append_lies _ (by rfl) _ _ _ (by rfl) w.heap.size 5 i0 _ 1 1 Tryd.underlying34 hi hz0 hz1 hz2 rfl (by omega) u0 _ _ (by rfl) ((((hraw.alloc _).alloc _).alloc _).drew)
                  ⟨wr.heap.size + 1, 0, none⟩ 1 1 [.int .u8 1] (by rfl) (by rfl) (World.news_of_block (cs := #[.int .u8 1]) (t := 5) (fr := (0, 0)) (heap_new3 wr _ _ _)) (by simp [Value.oneCell'])
                  (by omega) (by have := HQ.out; unfold maxLen; omega) (by have := HQ.out; omega) (by simp; omega) (wr.heap.size + 3) (by simp) ?_; intro gg cap w1 hown1 hgrow hat hlt1)
            | (refine step_append_lies _ (by rfl) _ _ _ (by rfl) w.heap.size 5 i0 _ 1 1 Tryd.underlying34 hi hz0 hz1 hz2 rfl (by omega) u0 _ _ (by rfl) ((((hraw.alloc _).alloc _).alloc _).drew)
                  ⟨wr.heap.size + 2, 0, none⟩ 1 1 [.int .u8 1] (by rfl) (by rfl) (World.news_of_block (cs := #[.int .u8 1]) (t := 5) (fr := (0, 0)) (heap_new32 wr _ _ _)) (by simp [Value.oneCell'])
                  (by omega) (by have := HQ.out; unfold maxLen; omega) (by have := HQ.out; omega) (by simp; omega) (wr.heap.size + 3) (by simp) ?_; intro gg cap w1 hown1 hgrow hat hlt1)
            | (refine step_append_own_string (by rfl) _ _ _ _ (by rfl) w.heap.size 5 i0 Tryd.underlying34 Tryd.underlying9 hi hz0 hz1 hz2 _ _ _ (by rfl) (by first | exact ownsRow_below (hown1.alloc _) hbv | exact ownsRow_below hown1 hbv) ⟨(Nm.row xn).toArray⟩ (by rfl) ?_ ?_ ?_ ?_
               · have h1 := HQ.out; have h2 := (Nm.row_length xn).2; show T.length + 1 + (Nm.row xn).length ≤ maxLen; unfold maxLen; omega
               · have h1 := HQ.out; have h2 := (Nm.row_length xn).2; show T.length + 1 + (Nm.row xn).length ≤ _; omega
               · have h1 := hgrow.size; have h2 := hbv.size; simp at h1 h2; omega
               intro v4 w4 hown4 hgrow2)
            | (go_at_call 58
               refine (var_any _ [xn] _ (by first | exact seesU_one (heap_alloc_new w1 _) | exact seesU_one ((hgrow.block _ (by simp) (Ne.symm (HOB.out 2))).trans (heap_new32 wr _ _ _)) | exact seesU_one ((hgrow.block _ (by simp) (Ne.symm (HOB.out 1))).trans (heap_new3 wr _ _ _))) (one_lt HX.out) (by simp)).mono ?_
               rintro e w3 ⟨rfl, hbv⟩
               rw [varl_one]))
        all_goals
          have hB1 : Below w.heap.size w w1 := by first | exact ((((hbel.alloc hsz _).alloc (by simp; omega) _)).drew).grown hgrow (by simp; omega) (fun j hj => (hraw.lt j hj).1) | exact ((((hbel.alloc hsz _).alloc (by simp; omega) _).alloc (by simp; omega) _).drew).grown hgrow (by simp; omega) (fun j hj => (hraw.lt j hj).1)
          have hB3 : Below w.heap.size w w3 := by first | exact hB1.trans (hbv.mono hB1.size) | exact (hB1.alloc hB1.size _).trans (hbv.mono (by have := hB1.size; simp; omega))
          have R : Owns w4 w.heap.size v4 (keyl (ps.take (k + 1))) ∧ Below w.heap.size w w4 := by
            rw [HS2.out]
            refine ⟨?_, hB3.grown hgrow2 hB3.size (fun j hj => ?_)⟩
            · unfold Owns
              rw [List.length_append, List.length_append, List.map_append, List.map_append]
              exact hown4
            · exact (hown1.lt j hj).1
          clear hown1 hgrow hat hbv hown4 hgrow2 hraw hB1 hB3
          go_wp2_with fail
          go_roundw
          case rel => exact ⟨k + 1, by omega, by go_num, R.1, R.2⟩
          case measure => simp [intOf]; omega
    · go_wp2_with fail
      go_ret
      have : ps.take k = ps := List.take_of_length_le (by rw [HLEN.out]; omega)
      rw [this] at hown
      exact ⟨_, rfl, hown, hbel⟩

/-- The key of parts, wherever they lie. -/
theorem key_any (ao : Option Addr) (len cap : Nat) (ps : List Pt) (w : World) (hA : SeesP w (.slice ao len cap) ps) (hl : len ≤ 1000000) (hz : sizl ps ≤ 1000000000) (hn : ∀ i, (ps.getD i pd).n < 18446744073709551616) :
    Calls Tryd.prog 40 #[.slice ao len cap] w (Gives (.string ⟨(keyl ps).toArray⟩) w) := by
  have HK := Lib.hid (appendKey_any ao len cap ps w hA hl hz hn)
  clear hA hl hz hn
  generalize keyl ps = L at *
  go_enter Tryd.func40, Tryd.ntmps40
  go_wp2_with fail
  refine HK.out.mono ?_
  rintro e w1 ⟨v, rfl, ho, hb⟩
  have hc := ho.convert
  go_wp2_with fail
  go_ret
  exact ⟨rfl, hb⟩

end Go.Proofs.YtphoihkbdogkhaaDoor.Bn

/- Walks of okey.readText, readPart. -/
namespace Go.Proofs.YtphoihkbdogkhaaDoor.Bn
set_option maxRecDepth 100000
open Go.RowKit

/-- The text that stands behind a text's mark, and how many bytes that takes. -/
def rtx : List UInt8 → Option (List UInt8 × Nat)
  | [] => none
  | b :: r => if b = 0 then (match r with
      | [] => none
      | c :: r' => if c = 1 then some ([], 2) else if c = 255 then (rtx r').map fun x => (0 :: x.1, x.2 + 2) else none)
    else (rtx r).map fun x => (b :: x.1, x.2 + 1)
/-- With what was read ahead of it. -/
def ahead (L : List UInt8) (k : Nat) (o : Option (List UInt8 × Nat)) : Option (List UInt8 × Nat) := o.map fun x => (L ++ x.1, k + x.2)
/-- What readText answers. -/
def rtxV : Option (List UInt8 × Nat) → Value
  | none => .tuple #[.string ByteArray.empty, .int .i64 0, .bool false]
  | some x => .tuple #[.string ⟨x.1.toArray⟩, .int .i64 (x.2 : Nat), .bool true]

theorem drop_cons (s : ByteArray) (k : Nat) (h : k < s.size) : s.data.toList.drop k = s[k] :: s.data.toList.drop (k + 1) := by
  have := List.drop_eq_getElem_cons (l := s.data.toList) (i := k) (by rw [length_list]; exact h)
  rw [this]; rfl
theorem ahead_char (L : List UInt8) (k : Nat) (b : UInt8) (r : List UInt8) (hb : b ≠ 0) : ahead L k (rtx (b :: r)) = ahead (L ++ [b]) (k + 1) (rtx r) := by
  have e : rtx (b :: r) = (rtx r).map fun x => (b :: x.1, x.2 + 1) := by rw [rtx.eq_def]; simp only; rw [if_neg hb]
  rw [e]
  cases rtx r with
  | none => rfl
  | some x => simp [ahead]; omega
theorem ahead_zero (L : List UInt8) (k : Nat) (r : List UInt8) : ahead L k (rtx (0 :: 255 :: r)) = ahead (L ++ [0]) (k + 2) (rtx r) := by
  have e : rtx (0 :: 255 :: r) = (rtx r).map fun x => (0 :: x.1, x.2 + 2) := by rw [rtx.eq_def]; simp
  rw [e]
  cases rtx r with
  | none => rfl
  | some x => simp [ahead]; omega
theorem ahead_end (L : List UInt8) (k : Nat) (r : List UInt8) : ahead L k (rtx (0 :: 1 :: r)) = some (L, k + 2) := by
  have e : rtx (0 :: 1 :: r) = some ([], 2) := by rw [rtx.eq_def]; simp
  rw [e]
  simp [ahead]
theorem ahead_bad (L : List UInt8) (k : Nat) (c : UInt8) (r : List UInt8) (h1 : c ≠ 1) (h2 : c ≠ 255) : ahead L k (rtx (0 :: c :: r)) = none := by
  have e : rtx (0 :: c :: r) = none := by rw [rtx.eq_def]; simp [h1, h2]
  rw [e]; rfl
theorem ahead_cut (L : List UInt8) (k : Nat) : ahead L k (rtx [0]) = none := rfl
theorem ahead_nil (L : List UInt8) (k : Nat) : ahead L k (rtx []) = none := rfl
theorem ahead_zero' (o : Option (List UInt8 × Nat)) : ahead [] 0 o = o := by cases o <;> simp [ahead]

theorem byte_ne {B : UInt8} {c : Int} (m : UInt8) (hc : c = B.toNat) (h : c ≠ m.toNat) : B ≠ m := fun e => h (by rw [hc, e])
theorem byte_eq {B : UInt8} (m : UInt8) {c : Int} (hc : c = B.toNat) (h : c = m.toNat) : B = m := UInt8.toNat.inj (by omega)

set_option maxHeartbeats 2000000 in
theorem readTextK_any (s : ByteArray) (w : World) (hs : s.size ≤ 1099511627776) :
    Calls Tryd.prog 97 #[.string s] w (Gives (rtxV (rtx s.data.toList)) w) := by
  obtain ⟨i0, hi, hz0, hz1, hz2⟩ := info_parts info_u8
  have H0 : Hid (rtx s.data.toList = ahead [] 0 (rtx (s.data.toList.drop 0))) := by rw [ahead_zero']; exact rfl
  generalize rtx s.data.toList = R at *
  go_enter Tryd.func97, Tryd.ntmps97
  go_wp2_with fail
  go_loopw [5, 6] (fun u i wr => ∃ (k : Nat) (L : List UInt8), k ≤ s.size ∧ L.length ≤ k ∧ i = .int .i64 k ∧ R = ahead L k (rtx (s.data.toList.drop k)) ∧ Owns wr w.heap.size u L ∧ Below w.heap.size w wr) (fun _ i _ => s.size - (intOf i).toNat)
  case atStart => exact ⟨0, [], Nat.zero_le _, Nat.le_refl _, rfl, H0.out, Owns.nil _ _, Below.refl _ _⟩
  case round =>
    obtain ⟨k, L, hk, hLk, rfl, hR, hown, hbel⟩ := hrel
    have HR := Lib.hid hR; clear hR H0
    have hsz := hbel.size
    have HLK := Lib.hid hLk; clear hLk
    have hraw : wr.ownsRow w.heap.size 5 1 u5 L.length (L.map cellOf) := hown
    by_cases hlt : k < s.size
    · have hx := index_byte s k hlt
      have HD := Lib.hid (drop_cons s k hlt)
      generalize s[k]'hlt = B at *
      obtain ⟨c, hc⟩ : ∃ c : Int, c = B.toNat := ⟨_, rfl⟩
      rw [← hc] at hx
      have HC := Lib.hid hc; clear hc
      by_cases hz : c = 0
      · obtain rfl : B = 0 := byte_eq 0 HC.out (by rw [hz]; rfl)
        subst hz
        clear HC
        by_cases hlt2 : k + 1 < s.size
        · have he : ((k : Int) + 1 == (s.size : Int)) = false := by rw [beq_eq_false_iff_ne]; omega
          have hx2 := index_byte s (k + 1) hlt2
          have HD2 := Lib.hid (drop_cons s (k + 1) hlt2)
          generalize s[k + 1]'hlt2 = B2 at *
          obtain ⟨c2, hc2⟩ : ∃ c : Int, c = B2.toNat := ⟨_, rfl⟩
          rw [← hc2] at hx2
          have ek : ((k + 1 : Nat) : Int) = (k : Int) + 1 := by omega
          rw [ek] at hx2
          clear ek
          have HC2 := Lib.hid hc2; clear hc2
          have HQ : Hid (R = ahead L k (rtx (0 :: B2 :: s.data.toList.drop (k + 1 + 1)))) := by rw [HR.out, HD.out, HD2.out]; exact rfl
          clear HR HD HD2
          by_cases h1 : c2 = 1
          · obtain rfl : B2 = 1 := byte_eq 1 HC2.out (by rw [h1]; rfl)
            subst h1
            have hcv := hown.convert
            have HE : Hid (rtxV R = .tuple #[.string ⟨L.toArray⟩, .int .i64 ((k : Int) + 1 + 1), .bool true]) := by
              rw [HQ.out, ahead_end]; exact Lib.hid (by unfold rtxV; simp only; congr 3)
            go_wp2_with fail
            go_ret3
            rw [HE.out]
            exact ⟨rfl, hbel⟩
          · by_cases h2 : c2 = 255
            · obtain rfl : B2 = 255 := byte_eq 255 HC2.out (by rw [h2]; rfl)
              subst h2
              go_wp2_with (at_builtin; go_must (refine wpList_append_own _ rfl _ _ 34 rfl w.heap.size 5 i0 (.int .u8 0) 1 1 Tryd.underlying34 hi hz0 hz1 hz2 rfl (by decide) _ _ _ rfl (hraw.alloc _) ⟨wr.heap.size, 0, none⟩ 1 1 [_] rfl rfl (cell_one_new _ _ _) ?c2 ?c3 ?c4 ?c5 ?_))
              case c2 => intro u hu; simp at hu; subst hu; rfl
              case c3 => have := HLK.out; unfold maxLen; omega
              case c4 => have := HLK.out; omega
              case c5 => simp; omega
              intro v1 w1 hown1 hgrow1 _
              have R1 : Owns w1 w.heap.size v1 (L ++ [0]) ∧ Below w.heap.size w w1 :=
                ⟨Owns.snoc hown1, (hbel.alloc (by omega) _).grown hgrow1 (by simp; omega) (fun j hj => (hraw.lt j hj).1)⟩
              clear hown1 hgrow1 hraw hown
              go_wp2_with fail
              go_roundw
              case rel => exact ⟨k + 2, L ++ [0], by omega, by have := HLK.out; rw [List.length_append, List.length_singleton]; omega, by go_num, by rw [HQ.out, ahead_zero], R1.1, R1.2⟩
              case measure => simp [intOf]; omega
            · have HE : Hid (R = none) := by rw [HQ.out]; exact ahead_bad L k B2 _ (byte_ne 1 HC2.out h1) (byte_ne 255 HC2.out h2)
              go_wp2_with fail
              go_ret3
              rw [HE.out]
              exact ⟨rfl, hbel⟩
        · have he : ((k : Int) + 1 == (s.size : Int)) = true := by rw [beq_iff_eq]; omega
          have HE : Hid (R = none) := by
            rw [HR.out, HD.out, List.drop_of_length_le (by rw [length_list]; omega)]
            exact ahead_cut L k
          go_wp2_with fail
          go_ret3
          rw [HE.out]
          exact ⟨rfl, hbel⟩
      · have HB : Hid (B ≠ 0) := byte_ne 0 HC.out hz
        go_wp2_with (at_builtin; go_must (refine wpList_append_own _ rfl _ _ 34 rfl w.heap.size 5 i0 (.int .u8 0) 1 1 Tryd.underlying34 hi hz0 hz1 hz2 rfl (by decide) _ _ _ rfl (hraw.alloc _) ⟨wr.heap.size, 0, none⟩ 1 1 [_] rfl rfl (cell_one_new _ _ _) ?c2 ?c3 ?c4 ?c5 ?_))
        case c2 => intro u hu; simp at hu; subst hu; rfl
        case c3 => have := HLK.out; unfold maxLen; omega
        case c4 => have := HLK.out; omega
        case c5 => simp; omega
        intro v1 w1 hown1 hgrow1 _
        have R1 : Owns w1 w.heap.size v1 (L ++ [B]) ∧ Below w.heap.size w w1 := by
          refine ⟨Owns.snoc ?_, (hbel.alloc (by omega) _).grown hgrow1 (by simp; omega) (fun j hj => (hraw.lt j hj).1)⟩
          rw [HC.out] at hown1
          exact hown1
        clear hown1 hgrow1 hraw hown
        go_wp2_with fail
        go_roundw
        case rel => exact ⟨k + 1, L ++ [B], by omega, by have := HLK.out; rw [List.length_append, List.length_singleton]; omega, by go_num, by rw [HR.out, HD.out, ahead_char _ _ _ _ HB.out], R1.1, R1.2⟩
        case measure => simp [intOf]; omega
    · have HE : Hid (R = none) := by
        rw [HR.out, List.drop_of_length_le (by rw [length_list]; omega)]
        exact ahead_nil L k
      go_wp2_with fail
      go_ret3
      rw [HE.out]
      exact ⟨rfl, hbel⟩

end Go.Proofs.YtphoihkbdogkhaaDoor.Bn

/- The walk of okey.readPart. -/
namespace Go.Proofs.YtphoihkbdogkhaaDoor.Bn
set_option maxRecDepth 100000
open Go.RowKit
set_option linter.unusedVariables false

/-- What readPart answers. -/
def rpT (t : Bool) (s : ByteArray) (n : Nat) (k : Int) (ok : Bool) : Value := .tuple #[partV t s n, .int .i64 k, .bool ok]

set_option maxHeartbeats 1000000 in
theorem readPart_num (s : ByteArray) (n k : Nat) (ok : Bool) (w : World) (hs : s.size ≤ 1099511627776) (h1 : 1 ≤ s.size) (hk : (k : Int) ≤ 1099511627776)
    (hx : ∀ w : World, (Instr.index 9 (.string s) (.int .i64 0)).run Tryd.prog w = .ok (.int .u8 1) w)
    (hv : rvV (s.data.toList.drop 1) = .tuple #[.int .u64 n, .int .i64 k, .bool ok]) :
    Calls Tryd.prog 85 #[.string s] w (Gives (rpT false ⟨#[]⟩ n (1 + (k : Int)) ok) w) := by
  have HV := Lib.hid hv; have HS := Lib.hid hs; clear hv
  go_enter Tryd.func85, Tryd.ntmps85
  go_wp2_with fail
  refine (readVar_any _ _ (by have := HS.out; have := extract_size s h1; omega)).mono ?_
  rintro e w' ⟨rfl, rfl⟩
  rw [Lib.extract_to_end, HV.out]
  go_wp2_with fail
  refine (num_any _ _).mono ?_
  rintro e w1 ⟨rfl, hb⟩
  obtain ⟨hc, hf⟩ := bcell hb
  have hz : w.heap.size < w1.heap.size := by have := hb.size; simp at this; omega
  unfold partV
  go_wp2_with fail
  refine bodyPost_ret (v := rpT false ⟨#[]⟩ n (1 + (k : Int)) ok) (by simp [results, Tryd.results85, go_sem, partV, rpT, hc]) rfl ⟨rfl, ?_⟩
  exact ((((((Below.refl _ _).alloc (Nat.le_refl _) _).trans (hb.mono (by simp))).setCell (Nat.le_refl _) _).setCell (Nat.le_refl _) _).setCell (Nat.le_refl _) _)

set_option maxHeartbeats 1000000 in
theorem readPart_text (s t : ByteArray) (k : Nat) (ok : Bool) (w : World) (hs : s.size ≤ 1099511627776) (h1 : 1 ≤ s.size) (hk : (k : Int) ≤ 1099511627776)
    (hx : ∀ w : World, (Instr.index 9 (.string s) (.int .i64 0)).run Tryd.prog w = .ok (.int .u8 2) w)
    (hv : rtxV (rtx (s.data.toList.drop 1)) = .tuple #[.string t, .int .i64 k, .bool ok]) :
    Calls Tryd.prog 85 #[.string s] w (Gives (rpT true t 0 (1 + (k : Int)) ok) w) := by
  have HV := Lib.hid hv; have HS := Lib.hid hs; clear hv
  go_enter Tryd.func85, Tryd.ntmps85
  go_wp2_with fail
  refine (readTextK_any _ _ (by have := HS.out; have := extract_size s h1; omega)).mono ?_
  rintro e w1 ⟨rfl, hb⟩
  rw [Lib.extract_to_end, HV.out]
  obtain ⟨hc, hf⟩ := bcell hb
  have hz : w.heap.size < w1.heap.size := by have := hb.size; simp at this; omega
  go_wp2_with fail
  refine bodyPost_ret (v := rpT true t 0 (1 + (k : Int)) ok) (by simp [results, Tryd.results85, go_sem, partV, rpT, hc]) rfl ⟨rfl, ?_⟩
  exact ((((((Below.refl _ _).alloc (Nat.le_refl _) _).trans (hb.mono (by simp))).setCell (Nat.le_refl _) _).setCell (Nat.le_refl _) _).setCell (Nat.le_refl _) _)

set_option maxHeartbeats 1000000 in
theorem readPart_bad (s : ByteArray) (c : Int) (w : World) (h1 : 1 ≤ s.size) (hn1 : c ≠ 1) (hn2 : c ≠ 2)
    (hx : ∀ w : World, (Instr.index 9 (.string s) (.int .i64 0)).run Tryd.prog w = .ok (.int .u8 c) w) :
    Calls Tryd.prog 85 #[.string s] w (Gives (rpT false ⟨#[]⟩ 0 0 false) w) := by
  have hn1' : (c == 1) = false := by rw [beq_eq_false_iff_ne]; exact hn1
  have hn2' : (c == 2) = false := by rw [beq_eq_false_iff_ne]; exact hn2
  clear hn1 hn2
  go_enter Tryd.func85, Tryd.ntmps85
  go_wp2_with fail
  refine bodyPost_ret (v := rpT false ⟨#[]⟩ 0 0 false) (by simp [results, Tryd.results85, go_sem, partV, rpT]) rfl ⟨rfl, ?_⟩
  exact (Below.refl _ _).alloc (Nat.le_refl _) _

/-- The part whose bytes a key begins with, and how many these are. -/
def rp : List UInt8 → Option (Pt × Nat)
  | [] => none
  | b :: r => if b = 1 then (Nm.rv r).map fun x => (⟨false, ⟨#[]⟩, x.1⟩, 1 + x.2)
    else if b = 2 then (rtx r).map fun x => (⟨true, ⟨x.1.toArray⟩, 0⟩, 1 + x.2) else none

theorem rp_one (r : List UInt8) : rp (1 :: r) = (Nm.rv r).map fun x => (⟨false, ⟨#[]⟩, x.1⟩, 1 + x.2) := by rw [rp, if_pos rfl]
theorem rp_two (r : List UInt8) : rp (2 :: r) = (rtx r).map fun x => (⟨true, ⟨x.1.toArray⟩, 0⟩, 1 + x.2) := by rw [rp, if_neg (by decide), if_pos rfl]
theorem rp_bad (b : UInt8) (r : List UInt8) (h1 : b ≠ 1) (h2 : b ≠ 2) : rp (b :: r) = none := by rw [rp, if_neg h1, if_neg h2]

/-- A part was read, or none. -/
def PartRead (o : Option (Pt × Nat)) (w : World) (e : Ending) (w' : World) : Prop :=
  (∃ t s n k, e = .returned (rpT t s n k o.isSome) ∧ ∀ p j, o = some (p, j) → t = p.t ∧ s = p.s ∧ n = p.n ∧ k = (j : Nat)) ∧ Below w.heap.size w w'

theorem rtx_le : ∀ (m : Nat) (l : List UInt8), l.length ≤ m → ∀ x, rtx l = some x → x.2 ≤ l.length ∧ 1 ≤ x.2
  | 0, [], _, x, h => by simp [rtx] at h
  | 0, _ :: _, hm, _, _ => by simp at hm
  | m + 1, [], _, x, h => by simp [rtx] at h
  | m + 1, b :: r, hm, x, h => by
    have hr : r.length ≤ m := by simpa using hm
    rw [rtx.eq_def] at h
    simp only at h
    split at h
    · split at h
      · cases h
      · rename_i c r'
        split at h
        · simp only [Option.some.injEq] at h
          subst h
          simp
        · split at h
          · simp only [Option.map_eq_some_iff] at h
            obtain ⟨y, hy, rfl⟩ := h
            have := rtx_le m r' (by simp at hr; omega) y hy
            simp; omega
          · cases h
    · simp only [Option.map_eq_some_iff] at h
      obtain ⟨y, hy, rfl⟩ := h
      have := rtx_le m r hr y hy
      simp; omega

theorem readPart_any (s : ByteArray) (w : World) (hs : s.size ≤ 1000000000000) (h1 : 1 ≤ s.size) :
    Calls Tryd.prog 85 #[.string s] w (PartRead (rp s.data.toList) w) := by
  have hx := index_byte s 0 h1
  have hd : s.data.toList = s[0] :: s.data.toList.drop 1 := drop_cons s 0 h1
  have hlen : (s.data.toList.drop 1).length ≤ 1000000000000 := by rw [List.length_drop, length_list]; omega
  rw [hd]
  generalize s[0] = b at *
  have hlt := b.toNat_lt
  by_cases hb1 : b = 1
  · subst hb1
    cases hv : Nm.rv (s.data.toList.drop 1) with
    | none =>
      refine (readPart_num s 0 0 false w (by omega) h1 (by omega) hx (rvV_none hv)).mono ?_
      rintro e w' ⟨rfl, hb⟩
      have e : rp (1 :: s.data.toList.drop 1) = none := by rw [rp_one, hv]; rfl
      rw [e]
      exact ⟨⟨_, _, _, _, rfl, fun p j h => by cases h⟩, hb⟩
    | some x =>
      obtain ⟨n, k⟩ := x
      have hk := Nm.row_rv hv
      refine (readPart_num s n k true w (by omega) h1 (by omega) hx (rvV_some hv)).mono ?_
      rintro e w' ⟨rfl, hb⟩
      have e : rp (1 :: s.data.toList.drop 1) = some (⟨false, ⟨#[]⟩, n⟩, 1 + k) := by rw [rp_one, hv]; rfl
      rw [e]
      refine ⟨⟨_, _, _, _, rfl, fun p j h => ?_⟩, hb⟩
      simp only [Option.some.injEq, Prod.mk.injEq] at h
      obtain ⟨rfl, rfl⟩ := h
      exact ⟨rfl, rfl, rfl, by simp⟩
  · by_cases hb2 : b = 2
    · subst hb2
      cases hv : rtx (s.data.toList.drop 1) with
      | none =>
        refine (readPart_text s ByteArray.empty 0 false w (by omega) h1 (by omega) hx (by rw [hv]; rfl)).mono ?_
        rintro e w' ⟨rfl, hb⟩
        have e : rp (2 :: s.data.toList.drop 1) = none := by rw [rp_two, hv]; rfl
        rw [e]
        exact ⟨⟨_, _, _, _, rfl, fun p j h => by cases h⟩, hb⟩
      | some x =>
        have hk := rtx_le _ _ (Nat.le_refl _) x hv
        refine (readPart_text s ⟨x.1.toArray⟩ x.2 true w (by omega) h1 (by omega) hx (by rw [hv]; rfl)).mono ?_
        rintro e w' ⟨rfl, hb⟩
        have e : rp (2 :: s.data.toList.drop 1) = some (⟨true, ⟨x.1.toArray⟩, 0⟩, 1 + x.2) := by rw [rp_two, hv]; rfl
        rw [e]
        refine ⟨⟨_, _, _, _, rfl, fun p j h => ?_⟩, hb⟩
        simp only [Option.some.injEq, Prod.mk.injEq] at h
        obtain ⟨rfl, rfl⟩ := h
        exact ⟨rfl, rfl, rfl, by simp⟩
    · have n1 : (b.toNat : Int) ≠ 1 := fun e => hb1 (UInt8.toNat.inj (by show b.toNat = 1; omega))
      have n2 : (b.toNat : Int) ≠ 2 := fun e => hb2 (UInt8.toNat.inj (by show b.toNat = 2; omega))
      refine (readPart_bad s _ w h1 n1 n2 hx).mono ?_
      rintro e w' ⟨rfl, hb⟩
      have e : rp (b :: s.data.toList.drop 1) = none := rp_bad _ _ hb1 hb2
      rw [e]
      exact ⟨⟨_, _, _, _, rfl, fun p j h => by cases h⟩, hb⟩

end Go.Proofs.YtphoihkbdogkhaaDoor.Bn

/- The walk of okey.Parts. -/
namespace Go.Proofs.YtphoihkbdogkhaaDoor.Bn
set_option maxRecDepth 100000
open Go.RowKit
set_option linter.unusedVariables false

theorem info_part : (Tryd.prog.info? 89).map (fun i => (i.zero, i.size, i.bytes)) = some (some (.agg #[.bool false, .string ⟨#[]⟩, .int .u64 0]), 3, 32) := by kernel_rfl

/-- A part as cells. -/
def cellsP (p : Pt) : List Value := [.bool p.t, .string p.s, .int .u64 p.n]
/-- A slice of parts that is the call's own, from a block on. -/
def OwnsP (w : World) (base : Nat) (v : Value) (ps : List Pt) : Prop := w.ownsRow base 89 3 v ps.length (ps.flatMap cellsP)
theorem OwnsP.nil (w : World) (base : Nat) : OwnsP w base (.slice none 0 0) [] := World.ownsRow_nil ..
theorem OwnsP.snoc {w' : World} {base : Nat} {v' : Value} {ps : List Pt} {p : Pt} (h : w'.ownsRow base 89 3 v' (ps.length + 1) (ps.flatMap cellsP ++ [.bool p.t, .string p.s, .int .u64 p.n])) : OwnsP w' base v' (ps ++ [p]) := by
  unfold OwnsP
  rw [List.length_append, List.flatMap_append, List.flatMap_singleton]
  exact h
theorem cellsP_at (ps : List Pt) (i : Nat) (h : i < ps.length) : (ps.flatMap cellsP)[i * 3]? = some (.bool (ps.getD i pd).t) ∧ (ps.flatMap cellsP)[i * 3 + 1]? = some (.string (ps.getD i pd).s) ∧ (ps.flatMap cellsP)[i * 3 + 2]? = some (.int .u64 (ps.getD i pd).n) := by
  induction ps generalizing i with
  | nil => simp at h
  | cons p ps ih =>
    cases i with
    | zero => simp [cellsP]
    | succ i =>
      have hi : i < ps.length := by simpa using h
      obtain ⟨h0, h1, h2⟩ := ih i hi
      rw [List.getD_cons_succ, List.flatMap_cons]
      have e : ∀ j, (cellsP p ++ ps.flatMap cellsP)[(i + 1) * 3 + j]? = (ps.flatMap cellsP)[i * 3 + j]? := by
        intro j
        rw [List.getElem?_append_right (by simp [cellsP]; omega)]
        congr 1
        simp [cellsP]; omega
      exact ⟨(e 0).trans h0, (e 1).trans h1, (e 2).trans h2⟩
/-- What is the call's own lies in memory. -/
theorem OwnsP.sees {w : World} {base : Nat} {v : Value} {ps : List Pt} (h : OwnsP w base v ps) : SeesP w v ps := by
  have hl := h.1
  rcases h.2 with ⟨rfl, h0⟩ | ⟨g, cap, cur, rfl, hb, hg, hnc, hcm, hcs, htake⟩
  · exact Or.inl ⟨List.eq_nil_of_length_eq_zero h0, none, 0, rfl⟩
  · have hcell := h.cells (g := g) rfl
    refine Or.inr ⟨g, 0, cap, rfl, ?_, fun i hi => ?_⟩
    · rcases Nat.lt_or_ge g w.heap.size with hlt | hge
      · exact hlt
      · rw [Array.getElem?_eq_none hge] at hg; cases hg
    · obtain ⟨h0, h1, h2⟩ := cellsP_at ps i hi
      have e : ∀ j, (⟨g, 0, none⟩ : Addr).add j = ⟨g, j, none⟩ := fun j => by unfold Addr.add; split <;> simp_all
      have c0 := hcell _ _ h0
      have c1 := hcell _ _ h1
      have c2 := hcell _ _ h2
      rw [e] at c0 c1 c2
      exact ⟨by rw [Nat.zero_add]; exact c0, by rw [Nat.zero_add]; exact c1, by rw [Nat.zero_add]; exact c2⟩

/-- The parts whose key bytes are. -/
def prs : Nat → List UInt8 → Option (List Pt)
  | _, [] => some []
  | 0, _ :: _ => none
  | f + 1, b :: r => match rp (b :: r) with
    | none => none
    | some (p, k) => (prs f ((b :: r).drop k)).map (p :: ·)

theorem rp_le {l : List UInt8} {p : Pt} {k : Nat} (h : rp l = some (p, k)) : 1 ≤ k ∧ k ≤ l.length ∧ p.n < 18446744073709551616 := by
  cases l with
  | nil => cases h
  | cons b r =>
    by_cases h1 : b = 1
    · subst h1
      rw [rp_one, Option.map_eq_some_iff] at h
      obtain ⟨x, hx, h⟩ := h
      simp only [Prod.mk.injEq] at h
      obtain ⟨rfl, rfl⟩ := h
      have := Nm.row_rv hx
      simp only [List.length_cons]
      omega
    · by_cases h2 : b = 2
      · subst h2
        rw [rp_two, Option.map_eq_some_iff] at h
        obtain ⟨x, hx, h⟩ := h
        simp only [Prod.mk.injEq] at h
        obtain ⟨rfl, rfl⟩ := h
        have := rtx_le _ _ (Nat.le_refl _) x hx
        simp only [List.length_cons]
        omega
      · rw [rp_bad _ _ h1 h2] at h; cases h

theorem prs_fuel : ∀ (f : Nat) (l : List UInt8), l.length ≤ f → prs f l = prs l.length l
  | f, [], _ => by cases f <;> rfl
  | 0, _ :: _, h => by simp at h
  | f + 1, b :: r, h => by
    rw [List.length_cons, prs, prs]
    cases hr : rp (b :: r) with
    | none => rfl
    | some x =>
      obtain ⟨p, k⟩ := x
      have hk := rp_le hr
      have hd : ((b :: r).drop k).length ≤ r.length := by rw [List.length_drop, List.length_cons]; omega
      simp only
      rw [prs_fuel f _ (by simp at h; omega), prs_fuel r.length _ hd]

/-- The parts of a key. -/
def prl (l : List UInt8) : Option (List Pt) := prs l.length l
theorem prl_nil : prl [] = some [] := rfl
theorem prl_none {l : List UInt8} (h : l ≠ []) (hr : rp l = none) : prl l = none := by
  cases l with
  | nil => exact absurd rfl h
  | cons b r => unfold prl; rw [List.length_cons, prs, hr]
theorem prl_some {l : List UInt8} {p : Pt} {k : Nat} (hr : rp l = some (p, k)) : prl l = (prl (l.drop k)).map (p :: ·) := by
  cases l with
  | nil => cases hr
  | cons b r =>
    have hk := rp_le hr
    unfold prl
    rw [List.length_cons, prs, hr]
    simp only
    rw [prs_fuel r.length _ (by rw [List.length_drop, List.length_cons]; omega)]

/-- Parts were read, or none. -/
def PartsRead (o : Option (List Pt)) (w : World) (e : Ending) (w' : World) : Prop :=
  Below w.heap.size w w' ∧ ((o = none ∧ e = .returned (.tuple #[.slice none 0 0, .bool false])) ∨ ∃ ps v, o = some ps ∧ e = .returned (.tuple #[v, .bool true]) ∧ OwnsP w' w.heap.size v ps)

theorem isEmpty_of_nil {s : ByteArray} (h : s.size = 0) : s.toList.isEmpty = true := by rw [empty_of_size h, ByteArray.toList_eq]; rfl

set_option maxHeartbeats 2000000 in
theorem parts_any (s : ByteArray) (w : World) (hs : s.size ≤ 1000000000) :
    Calls Tryd.prog 62 #[.string s] w (PartsRead (prl s.data.toList) w) := by
  obtain ⟨i0, hi, hz0, hz1, hz2⟩ := info_parts info_part
  have HS := Lib.hid hs; clear hs
  generalize hR : prl s.data.toList = R
  have H0 : Hid (R = (prl s.data.toList).map ([] ++ ·)) := by rw [hR]; exact Lib.hid (by simp)
  clear hR
  go_enter Tryd.func62, Tryd.ntmps62
  go_wp2_with fail
  go_loopw [0, 4] (fun x u wr => ∃ (S : ByteArray) (ps : List Pt), x = .string S ∧ ps.length + S.size ≤ s.size ∧ R = (prl S.data.toList).map (ps ++ ·) ∧ OwnsP wr w.heap.size u ps ∧ Below w.heap.size w wr) (fun x _ _ => match x with | .string S => S.size | _ => 0)
  case atStart => exact ⟨s, [], rfl, by simp, H0.out, OwnsP.nil _ _, Below.refl _ _⟩
  case round =>
    obtain ⟨S, ps, rfl, hlen, hR, hown, hbel⟩ := hrel
    have HR := Lib.hid hR; clear hR H0
    have hsz := hbel.size
    have HLEN := Lib.hid hlen; clear hlen
    by_cases h0 : S.size = 0
    · have he := isEmpty_of_nil h0
      have HE : Hid (R = some ps) := by
        rw [HR.out, empty_of_size h0]
        exact Lib.hid (by show Option.map (ps ++ ·) (some []) = _; simp)
      clear h0
      go_wp2_with fail
      go_ret2
      exact ⟨hbel, Or.inr ⟨_, _, HE.out, rfl, hown⟩⟩
    · have h1 : 1 ≤ S.size := by omega
      have he := isEmpty_of_size h1
      clear h0
      have HNE : Hid (S.data.toList ≠ []) := fun e => by have := length_list S; rw [e] at this; simp at this; omega
      go_wp2_with fail
      refine (readPart_any S _ (by have := HS.out; have := HLEN.out; omega) h1).mono ?_
      rintro e w1 ⟨⟨t, x, n, k, rfl, hpk⟩, hb1⟩
      cases hrp : rp S.data.toList with
      | none =>
        have HE : Hid (R = none) := by rw [HR.out, prl_none HNE.out hrp]; exact rfl
        unfold rpT partV
        rw [Option.isSome_none]
        clear hrp hpk
        go_wp2_with fail
        go_ret2
        exact ⟨Below.alloc (hbel.trans (hb1.mono hsz)) (by have := hb1.size; omega) _, Or.inl ⟨HE.out, rfl⟩⟩
      | some y =>
        obtain ⟨p, j⟩ := y
        obtain ⟨rfl, rfl, rfl, rfl⟩ := hpk p j hrp
        have hj := rp_le hrp
        have HE : Hid (R = (prl (S.data.toList.drop j)).map ((ps ++ [p]) ++ ·)) := by
          rw [HR.out, prl_some hrp, Option.map_map]
          exact Lib.hid (by congr 1; funext z; simp)
        unfold rpT partV
        rw [Option.isSome_some]
        rw [length_list] at hj
        clear hrp hpk
        obtain ⟨hj1, hj2, hj3⟩ := hj
        have hj1' : (1 : Int) ≤ j := by omega
        have hj2' : (j : Int) ≤ S.size := by omega
        have hb2 := hbel.trans (hb1.mono hsz)
        have hsz1 := hb2.size
        have hraw : w1.ownsRow w.heap.size 89 3 u4 ps.length (ps.flatMap cellsP) := ownsRow_below hown hb1
        clear hown hbel hb1
        have HPL : Hid (ps.length ≤ 1000000000) := by have := HLEN.out; have := HS.out; exact Lib.hid (by omega)
        go_wp2_with (at_builtin; go_must (refine wpList_append_own _ rfl _ _ 111 rfl w.heap.size 89 i0 _ 3 32 Tryd.underlying111 hi hz0 hz1 hz2 rfl (by decide) _ _ _ rfl ((hraw.alloc _).alloc _) ⟨w1.heap.size + 1, 0, none⟩ 1 1 [_, _, _] rfl rfl (World.news_of_block (cs := #[_, _, _]) (fr := (0, 0)) (heap_new2 w1 _ _)) ?c2 ?c3 ?c4 ?c5 ?_))
        case c2 => intro u hu; simp at hu; rcases hu with hu | hu | hu <;> subst hu <;> rfl
        case c3 => have := HPL.out; unfold maxLen; omega
        case c4 => have := HPL.out; omega
        case c5 => simp; omega
        intro v2 w2 hown2 hgrow2 _
        have R1 : OwnsP w2 w.heap.size v2 (ps ++ [p]) ∧ Below w.heap.size w w2 :=
          ⟨OwnsP.snoc hown2, ((hb2.alloc hsz1 _).alloc (by simp; omega) _).grown hgrow2 (by simp; omega) (fun q hq => (hraw.lt q hq).1)⟩
        clear hown2 hgrow2 hraw
        go_wp2_with fail
        go_roundw
        case rel => exact ⟨_, ps ++ [p], rfl, by have := HLEN.out; rw [List.length_append, List.length_singleton, ByteArray.size_extract]; omega, by rw [HE.out, Lib.extract_to_end], R1.1, R1.2⟩
        case measure => simp only [ByteArray.size_extract]; omega

end Go.Proofs.YtphoihkbdogkhaaDoor.Bn

/- The one text of a key of one part is read again. -/
namespace Go.Proofs.YtphoihkbdogkhaaDoor.Tb
open Go Go.RowKit Go.Proofs.YtphoihkbdogkhaaDoor.Bn
set_option maxRecDepth 100000

theorem rtx_esc : ∀ (x s : List UInt8), rtx (esc x ++ 0 :: 1 :: s) = some (x, (esc x).length + 2)
  | [], s => by rw [rtx.eq_def]; simp [esc]
  | b :: x, s => by
    have ih := rtx_esc x s
    by_cases hb : b = 0
    · subst hb
      have e : esc (0 :: x) ++ 0 :: 1 :: s = 0 :: 255 :: (esc x ++ 0 :: 1 :: s) := by simp [esc, esc1]
      have e2 : (esc (0 :: x)).length = (esc x).length + 2 := by simp [esc, esc1]
      rw [e, rtx.eq_def]
      simp only [if_true]
      rw [if_neg (by decide), ih, e2]
      simp
    · have e : esc (b :: x) ++ 0 :: 1 :: s = b :: (esc x ++ 0 :: 1 :: s) := by simp [esc, esc1, hb]
      have e2 : (esc (b :: x)).length = (esc x).length + 1 := by simp [esc, esc1, hb]
      rw [e, rtx.eq_def]
      simp only
      rw [if_neg hb, ih, e2]
      simp
/-- A text, as a key of one part. -/
def one (k : List UInt8) : List UInt8 := 2 :: (Mm.esc k ++ [0, 1])
theorem one_key (K : ByteArray) : keyl [⟨true, K, 0⟩] = one K.data.toList := by
  unfold keyl ptl one
  simp
  rfl
theorem place_one (k : List UInt8) (q : Nat) : Mm.place k q = one k ++ Nm.big (18446744073709551615 - q) 8 := rfl
theorem one_length (k : List UInt8) : (one k).length ≤ 2 * k.length + 3 ∧ 3 ≤ (one k).length := by
  have := Mm.esc_length k
  unfold one
  simp only [List.length_cons, List.length_append, List.length_nil]
  omega
theorem prl_one (k : List UInt8) : prl (one k) = some [⟨true, ⟨k.toArray⟩, 0⟩] := by
  have h := rtx_esc k []
  have e : rp (one k) = some (⟨true, ⟨k.toArray⟩, 0⟩, (one k).length) := by
    unfold one
    rw [rp_two, show (Mm.esc k ++ [0, 1] : List UInt8) = esc k ++ 0 :: 1 :: [] from rfl, h]
    simp
    show 1 + ((esc k).length + 2) = (esc k).length + 1 + 1 + 1
    omega
  rw [prl_some e, List.drop_length, prl_nil]
  rfl
end Go.Proofs.YtphoihkbdogkhaaDoor.Tb
