/- Walks of okey.appendKey, Key, Range. -/
import Derived.Test.YtmdnmabbphnhaaaBnOkeyC
import Derived.Lib.AppendStr
import Derived.Deep.RegionHeld3
import Derived.Deep.AppendLies
namespace Go.Proofs.Ytmdnmabbphnhaaa.Bn
set_option maxRecDepth 100000
open Go.RowKit

/-- A part's bytes. -/
def ptl (p : Pt) : List UInt8 := if p.t = true then 2 :: (esc p.s.data.toList ++ [0, 1]) else 1 :: Nm.row p.n
/-- A list's key. -/
def keyl (ps : List Pt) : List UInt8 := ps.flatMap ptl
/-- How many bytes the texts of parts have. -/
def sizl : List Pt → Nat
  | [] => 0
  | p :: ps => p.s.size + sizl ps
theorem sizl_take : ∀ (ps : List Pt) (k : Nat), sizl (ps.take k) ≤ sizl ps
  | [], k => by simp [sizl]
  | s :: ss, 0 => by simp [sizl]
  | s :: ss, k + 1 => by have := sizl_take ss k; simp only [List.take_succ_cons, sizl]; omega
theorem sizl_snoc : ∀ (ps : List Pt) (k : Nat), k < ps.length → sizl (ps.take (k + 1)) = sizl (ps.take k) + (ps.getD k pd).s.size
  | [], k, h => by simp at h
  | s :: ss, 0, _ => by simp [sizl]
  | s :: ss, k + 1, h => by
    have := sizl_snoc ss k (by simpa using h)
    rw [List.take_succ_cons, List.take_succ_cons, sizl, sizl, this, List.getD_cons_succ]
    omega
theorem ptl_length (p : Pt) : (ptl p).length ≤ 10 + 2 * p.s.size := by
  unfold ptl
  split
  · have := esc_length p.s.data.toList
    rw [length_list] at this
    simp only [List.length_cons, List.length_append, List.length_nil]
    omega
  · have := (Nm.row_length p.n).2
    simp only [List.length_cons]
    omega
theorem keyl_length (ps : List Pt) : (keyl ps).length ≤ 10 * ps.length + 2 * sizl ps := by
  induction ps with
  | nil => simp [keyl]
  | cons p ps ih =>
    have := ptl_length p
    simp only [keyl, List.flatMap_cons, List.length_append, List.length_cons, sizl] at ih ⊢
    omega
theorem keyl_snoc (ps : List Pt) (k : Nat) (h : k < ps.length) : keyl (ps.take (k + 1)) = keyl (ps.take k) ++ ptl (ps.getD k pd) := by
  have e : ps.getD k pd = ps[k] := by simp [h]
  unfold keyl
  rw [List.take_succ_eq_append_getElem h, List.flatMap_append, e, List.flatMap_singleton]

theorem seesU_one {w : World} {B n : Nat} (h : w.heap[B]? = some (.cells #[.int .u64 n] 23 (0, 0))) : SeesU w (.slice (some ⟨B, 0, none⟩) 1 1) [n] := by
  have hc : w.cell? ⟨B, 0, none⟩ = some (.int .u64 n) := by rw [cell_of_row w B 0 _ _ _ h]; rfl
  refine Or.inr ⟨B, 0, 1, rfl, World.block_lt_of_cell? w _ hc, fun i hi => ?_⟩
  match i, hi with
  | 0, _ => exact hc
theorem one_lt {n : Nat} (h : n < 18446744073709551616) (i : Nat) : [n].getD i 0 < 18446744073709551616 := by
  match i with
  | 0 => exact h
  | _ + 1 => simp
theorem varl_one (n : Nat) : varl [n] = Nm.row n := by simp [varl]
theorem ownsRow_below {w w' : World} {base : Nat} {e : TypeId} {z n : Nat} {v : Value} {xs : List Value} (h : w.ownsRow base e z v n xs) (hb : Below w.heap.size w w') : w'.ownsRow base e z v n xs :=
  h.kept (row := none) ⟨hb.os, hb.tape, hb.output, hb.size, fun k hk _ => hb.block k hk⟩ (by cases v.ownBlock with
    | none => exact Or.inl rfl
    | some k => exact Or.inr (by simp))
theorem heap_new2 (w : World) (o o2 : Obj) : ((w.alloc o).alloc o2).heap[w.heap.size + 1]? = some o2 := by
  have := heap_alloc_new (w.alloc o) o2
  rw [World.size_alloc] at this
  exact this
theorem heap_new3 (w : World) (o o2 o3 : Obj) : (((w.alloc o).alloc o2).alloc o3).heap[w.heap.size + 1]? = some o2 := by
  rw [Below.heap_alloc _ o3 _ (by simp)]
  exact heap_new2 w o o2
theorem heap_new32 (w : World) (o o2 o3 : Obj) : (((w.alloc o).alloc o2).alloc o3).heap[w.heap.size + 2]? = some o3 := by
  have := heap_alloc_new ((w.alloc o).alloc o2) o3
  rw [World.size_alloc, World.size_alloc] at this
  exact this
theorem own_ne {v : Value} {B g H n c : Nat} (hob : v.ownBlock ≠ some B) (hat : v.ownBlock = some g ∨ g = H) (hH : B < H) : (Value.slice (some ⟨g, 0, none⟩) n c).ownBlock ≠ some B := by
  intro e
  have e2 : g = B := by simpa [Value.ownBlock] using e
  rcases hat with h | h
  · exact hob (by rw [h, e2])
  · omega
theorem grows_lies {w w1 : World} {v : Value} {g n cap H : Nat} (hg : w.grownBy w1 v.ownBlock) (hat : v.ownBlock = some g ∨ g = H) (hH : w.heap.size ≤ H := by simp) : Grows w w1 v (.slice (some ⟨g, 0, none⟩) n cap) :=
  ⟨hg, hat.imp (fun e => by rw [e]; rfl) fun e => ⟨g, rfl, by omega⟩⟩

set_option maxRecDepth 100000 in
set_option maxHeartbeats 3000000 in
theorem appendKey_any (ao : Option Addr) (len cap : Nat) (ps : List Pt) (w : World) (hA : SeesP w (.slice ao len cap) ps) (hl : len ≤ 1000000) (hz : sizl ps ≤ 1000000000) (hn : ∀ i, (ps.getD i pd).n < 18446744073709551616) :
    Calls Try.prog 45 #[.slice none 0 0, .slice ao len cap] w (Grew w.heap.size (keyl ps) w) := by
  obtain ⟨i0, hi, hz0, hz1, hz2⟩ := info_parts info_u8
  obtain ⟨hlen, b, off, hcell⟩ := hA.get
  clear hA
  have HC := Lib.hid hcell; have HLEN := Lib.hid hlen; have HZ := Lib.hid hz; have HN := Lib.hid hn; have HL := Lib.hid hl
  clear hcell hlen hz hn
  go_enter Try.func45, Try.ntmps45
  go_wp2_with fail
  go_loopw [0, 9] (fun u i wr => ∃ k : Nat, k ≤ len ∧ i = .int .i64 k ∧ Owns wr w.heap.size u (keyl (ps.take k)) ∧ Below w.heap.size w wr) (fun _ i _ => len - (intOf i).toNat)
  case atStart => exact ⟨0, Nat.zero_le _, rfl, by simpa [keyl] using Owns.nil w w.heap.size, Below.refl _ _⟩
  case round =>
    obtain ⟨k, hk, rfl, hown, hbel⟩ := hrel
    have hsz := hbel.size
    by_cases hlt : k < len
    · obtain ⟨rfl, hba, hpa⟩ := HC.out k hlt
      obtain ⟨c0, c1, c2⟩ := hpa.below hbel hba
      have hba' : b < wr.heap.size := by omega
      have hk' : k < ps.length := by rw [HLEN.out]; exact hlt
      have HS : Hid (keyl (ps.take (k + 1)) = keyl (ps.take k) ++ ptl (ps.getD k pd)) := keyl_snoc ps k hk'
      have hq : (keyl (ps.take k)).length + 2 * (ps.getD k pd).s.size ≤ 3000000000 := by
        have h1 := keyl_length (ps.take k)
        have h2 : (ps.take k).length ≤ k := List.length_take_le ..
        have h3 := HL.out
        have h4 := sizl_snoc ps k hk'
        have h5 := sizl_take ps (k + 1)
        have h6 := HZ.out
        omega
      have HQ := Lib.hid hq; clear hq hk'
      have HX := Lib.hid (HN.out k)
      clear hpa
      generalize ps.getD k pd = x at *
      generalize keyl (ps.take k) = T at *
      obtain ⟨xt, xs, xn⟩ := x
      have hraw : wr.ownsRow w.heap.size 5 1 u0 T.length (T.map cellOf) := hown
      have hobm : ∀ m, u0.ownBlock ≠ some (wr.heap.size + m) := fun m e => by
        have := hraw.lt _ e
        omega
      have hob : u0.ownBlock ≠ some wr.heap.size := hobm 0
      have HOB := Lib.hid hobm; clear hobm
      clear hown
      cases xt with
      | true =>
        have HS2 : Hid (keyl (ps.take (k + 1)) = T ++ [2] ++ (esc xs.data.toList ++ [0, 1])) := by rw [HS.out]; exact Lib.hid (by simp [ptl])
        dsimp only at c0 c1 c2 HX HQ
        clear HS
        go_wp2_with fail
        go_region_held3 (fun w' => w'.cell? ⟨wr.heap.size, 1, none⟩ = some (.string xs))
          (first
            | go_keep
            | (rw [hgrow.cell_far _ (by simp; omega) (Ne.symm hob)]; assumption)
            | (rw [hb2.cell (p := ⟨wr.heap.size, 1, none⟩) (by have := hgrow.size; simp at this ⊢; omega) (own_ne (B := wr.heap.size) hob hat (by omega)), hgrow.cell_far _ (by simp; omega) (Ne.symm hob)]; simp))
          (first
            | ((refine step_append_lies _ (by rfl) _ _ _ (by rfl) w.heap.size 5 i0 _ 1 1 Try.underlying82 hi hz0 hz1 hz2 rfl (by omega) u0 _ _ (by rfl) (((hraw.alloc _).alloc _).drew)
                  ⟨wr.heap.size + 1, 0, none⟩ 1 1 [.int .u8 2] (by rfl) (by rfl) (World.news_of_block (cs := #[.int .u8 2]) (t := 5) (fr := (0, 0)) (heap_new2 wr _ _)) (by simp [Value.oneCell'])
                  (by omega) (by have := HQ.out; unfold maxLen; omega) (by have := HQ.out; omega) (by simp; omega) (wr.heap.size + 2) (by simp) ?_; intro gg cap w1 hown1 hgrow hat hlt1))
            | ((go_at_call 46; refine (appendText_any w.heap.size _ (T ++ [2]) xs w1 (Owns.snoc hown1) (by have := hgrow.size; simp at this; omega) (by have := HQ.out; rw [List.length_append, List.length_singleton]; omega)).mono ?_; rintro e w2 ⟨v2, rfl, ho2, hb2⟩)))
        have R : Owns w2 w.heap.size v2 (keyl (ps.take (k + 1))) ∧ Below w.heap.size w w2 := by
          rw [HS2.out]
          exact ⟨ho2, ((((hbel.alloc hsz _).alloc (by simp; omega) _).drew).grown hgrow (by simp; omega) (fun j hj => (hraw.lt j hj).1)).trans (hb2.toBelow hown1 (by have := hgrow.size; simp at this; omega))⟩
        clear hown1 hgrow hat ho2 hb2 hraw
        go_wp2_with fail
        go_roundw
        case rel => exact ⟨k + 1, by omega, by go_num, R.1, R.2⟩
        case measure => simp [intOf]; omega
      | false =>
        have HS2 : Hid (keyl (ps.take (k + 1)) = T ++ [1] ++ Nm.row xn) := by rw [HS.out]; exact Lib.hid (by simp [ptl])
        dsimp only at c0 c1 c2 HX HQ
        clear HS
        go_wp2_with fail
        go_region_held3 (fun w' => w'.cell? ⟨wr.heap.size, 2, none⟩ = some (.int .u64 xn))
          (first
            | go_keep
            | (rw [hgrow2.cell_far ⟨wr.heap.size, 2, none⟩ (show wr.heap.size < w3.heap.size by have h1 := hgrow.size; have h2 := hbv.size; simp at h1 h2; omega) (Ne.symm (own_ne (B := wr.heap.size) hob hat (by omega)))]; first | assumption | simp)
            | (rw [hbv.cell (p := ⟨wr.heap.size, 2, none⟩) (by have := hgrow.size; simp at this ⊢; omega)]; first | assumption | simp)
            | (rw [hgrow.cell_far _ (by simp; omega) (Ne.symm hob)]; first | assumption | simp))
          (first
            | (refine step_append_lies _ (by rfl) _ _ _ (by rfl) w.heap.size 5 i0 _ 1 1 Try.underlying82 hi hz0 hz1 hz2 rfl (by omega) u0 _ _ (by rfl) (((hraw.alloc _).alloc _).drew)
                  ⟨wr.heap.size + 1, 0, none⟩ 1 1 [.int .u8 1] (by rfl) (by rfl) (World.news_of_block (cs := #[.int .u8 1]) (t := 5) (fr := (0, 0)) (heap_new2 wr _ _)) (by simp [Value.oneCell'])
                  (by omega) (by have := HQ.out; unfold maxLen; omega) (by have := HQ.out; omega) (by simp; omega) (wr.heap.size + 2) (by simp) ?_; intro gg cap w1 hown1 hgrow hat hlt1)
            | (refine step_append_lies _ (by rfl) _ _ _ (by rfl) w.heap.size 5 i0 _ 1 1 Try.underlying82 hi hz0 hz1 hz2 rfl (by omega) u0 _ _ (by rfl) ((((hraw.alloc _).alloc _).alloc _).drew)
                  ⟨wr.heap.size + 1, 0, none⟩ 1 1 [.int .u8 1] (by rfl) (by rfl) (World.news_of_block (cs := #[.int .u8 1]) (t := 5) (fr := (0, 0)) (heap_new3 wr _ _ _)) (by simp [Value.oneCell'])
                  (by omega) (by have := HQ.out; unfold maxLen; omega) (by have := HQ.out; omega) (by simp; omega) (wr.heap.size + 3) (by simp) ?_; intro gg cap w1 hown1 hgrow hat hlt1)
            | (refine step_append_lies _ (by rfl) _ _ _ (by rfl) w.heap.size 5 i0 _ 1 1 Try.underlying82 hi hz0 hz1 hz2 rfl (by omega) u0 _ _ (by rfl) ((((hraw.alloc _).alloc _).alloc _).drew)
                  ⟨wr.heap.size + 2, 0, none⟩ 1 1 [.int .u8 1] (by rfl) (by rfl) (World.news_of_block (cs := #[.int .u8 1]) (t := 5) (fr := (0, 0)) (heap_new32 wr _ _ _)) (by simp [Value.oneCell'])
                  (by omega) (by have := HQ.out; unfold maxLen; omega) (by have := HQ.out; omega) (by simp; omega) (wr.heap.size + 3) (by simp) ?_; intro gg cap w1 hown1 hgrow hat hlt1)
            | (refine step_append_own_string (by rfl) _ _ _ _ (by rfl) w.heap.size 5 i0 Try.underlying82 Try.underlying9 hi hz0 hz1 hz2 _ _ _ (by rfl) (by first | exact ownsRow_below (hown1.alloc _) hbv | exact ownsRow_below hown1 hbv) ⟨(Nm.row xn).toArray⟩ (by rfl) ?_ ?_ ?_ ?_
               · have h1 := HQ.out; have h2 := (Nm.row_length xn).2; show T.length + 1 + (Nm.row xn).length ≤ maxLen; unfold maxLen; omega
               · have h1 := HQ.out; have h2 := (Nm.row_length xn).2; show T.length + 1 + (Nm.row xn).length ≤ _; omega
               · have h1 := hgrow.size; have h2 := hbv.size; simp at h1 h2; omega
               intro v4 w4 hown4 hgrow2)
            | (go_at_call 47
               refine (var_any _ [xn] _ (by first | exact seesU_one (heap_alloc_new w1 _) | exact seesU_one ((hgrow.block _ (by simp) (Ne.symm (HOB.out 2))).trans (heap_new32 wr _ _ _)) | exact seesU_one ((hgrow.block _ (by simp) (Ne.symm (HOB.out 1))).trans (heap_new3 wr _ _ _))) (one_lt HX.out) (by simp)).mono ?_
               rintro e w3 ⟨rfl, hbv⟩
               rw [varl_one]))
        all_goals
          have hB1 : Below w.heap.size w w1 := by first | exact ((((hbel.alloc hsz _).alloc (by simp; omega) _)).drew).grown hgrow (by simp; omega) (fun j hj => (hraw.lt j hj).1) | exact ((((hbel.alloc hsz _).alloc (by simp; omega) _).alloc (by simp; omega) _).drew).grown hgrow (by simp; omega) (fun j hj => (hraw.lt j hj).1)
          have hB3 : Below w.heap.size w w3 := by first | exact hB1.trans (hbv.mono hB1.size) | exact (hB1.alloc hB1.size _).trans (hbv.mono (by have := hB1.size; simp; omega))
          have R : Owns w4 w.heap.size v4 (keyl (ps.take (k + 1))) ∧ Below w.heap.size w w4 := by
            rw [HS2.out]
            refine ⟨?_, hB3.grown hgrow2 hB3.size (fun j hj => ?_)⟩
            · unfold Owns
              rw [List.length_append, List.length_append, List.map_append, List.map_append]
              exact hown4
            · exact (hown1.lt j hj).1
          clear hown1 hgrow hat hbv hown4 hgrow2 hraw hB1 hB3
          go_wp2_with fail
          go_roundw
          case rel => exact ⟨k + 1, by omega, by go_num, R.1, R.2⟩
          case measure => simp [intOf]; omega
    · go_wp2_with fail
      go_ret
      have : ps.take k = ps := List.take_of_length_le (by rw [HLEN.out]; omega)
      rw [this] at hown
      exact ⟨_, rfl, hown, hbel⟩

/-- The key of parts, wherever they lie. -/
theorem key_any (ao : Option Addr) (len cap : Nat) (ps : List Pt) (w : World) (hA : SeesP w (.slice ao len cap) ps) (hl : len ≤ 1000000) (hz : sizl ps ≤ 1000000000) (hn : ∀ i, (ps.getD i pd).n < 18446744073709551616) :
    Calls Try.prog 37 #[.slice ao len cap] w (Gives (.string ⟨(keyl ps).toArray⟩) w) := by
  have HK := Lib.hid (appendKey_any ao len cap ps w hA hl hz hn)
  clear hA hl hz hn
  generalize keyl ps = L at *
  go_enter Try.func37, Try.ntmps37
  go_wp2_with fail
  refine HK.out.mono ?_
  rintro e w1 ⟨v, rfl, ho, hb⟩
  have hc := ho.convert
  go_wp2_with fail
  go_ret
  exact ⟨rfl, hb⟩

end Go.Proofs.Ytmdnmabbphnhaaa.Bn
