/- The walk of the statements' plays over a disk that lies in memory. -/
import Derived.Test.YtefoijamedciiaaDkAct
namespace Go.Proofs.Ytefoijamedciiaa
open Go.RowKit Go.Maps
open Dk (Dir Chg Disk File Str)

/-- A slice of acts that lies in memory, older than a base. -/
def ActsAt (w : World) (base : Nat) (v : Value) (l : List Act) : Prop :=
  (l = [] ∧ ∃ a cap, v = .slice a 0 cap) ∨ ∃ b off cap, v = .slice (some ⟨b, off, none⟩) l.length cap ∧ b < base ∧ b < w.heap.size ∧ ∀ i x, l[i]? = some x → ActFits x ∧ ∃ vk vs, Older w base vk vs x.crash ∧
    w.cell? ⟨b, off + i * 7, none⟩ = some (.int .u8 (x.kind : Int)) ∧ w.cell? ⟨b, off + i * 7 + 1, none⟩ = some (.string x.a) ∧ w.cell? ⟨b, off + i * 7 + 2, none⟩ = some (.string x.b) ∧ w.cell? ⟨b, off + i * 7 + 3, none⟩ = some (.int .i64 x.n) ∧
    w.cell? ⟨b, off + i * 7 + 4, none⟩ = some (.int .i64 x.crash.names) ∧ w.cell? ⟨b, off + i * 7 + 5, none⟩ = some vk ∧ w.cell? ⟨b, off + i * 7 + 6, none⟩ = some vs
theorem ActsAt.below {w w' : World} {base : Nat} {v : Value} {l : List Act} (h : ActsAt w base v l) (hb : Below base w w') : ActsAt w' base v l := by
  rcases h with h | ⟨b, off, cap, rfl, hlt, hs, hc⟩
  · exact Or.inl h
  · refine Or.inr ⟨b, off, cap, rfl, hlt, Nat.lt_of_lt_of_le hs hb.size, fun i x hi => ?_⟩
    obtain ⟨hf, vk, vs, ho, c0, c1, c2, c3, c4, c5, c6⟩ := hc i x hi
    have k := hb.block b hlt
    exact ⟨hf, vk, vs, ho.below hb, cell_kept c0 k, cell_kept c1 k, cell_kept c2 k, cell_kept c3 k, cell_kept c4 k, cell_kept c5 k, cell_kept c6 k⟩
theorem ActsAt.shape {w : World} {base : Nat} {v : Value} {l : List Act} (h : ActsAt w base v l) : ∃ a cap, v = .slice a l.length cap := by
  rcases h with ⟨rfl, a, cap, rfl⟩ | ⟨b, off, cap, rfl, _⟩ <;> exact ⟨_, _, rfl⟩

def played (S : Disk) (l : List Act) : Disk := l.foldl (fun s x => (does s x).1) S
def codes : Disk → List Act → List Int
  | _, [] => []
  | S, x :: r => (does S x).2.2 :: codes (does S x).1 r
def bytesOf (l : List Act) : Nat := (l.map fun x => x.b.size).sum
theorem played_snoc (S : Disk) (l : List Act) (x : Act) : played S (l ++ [x]) = (does (played S l) x).1 := by simp [played]
theorem codes_snoc (S : Disk) (l : List Act) (x : Act) : codes S (l ++ [x]) = codes S l ++ [(does (played S l) x).2.2] := by
  induction l generalizing S with
  | nil => rfl
  | cons y r ih =>
    simp only [List.cons_append, codes, ih]
    rfl
theorem codes_length (S : Disk) (l : List Act) : (codes S l).length = l.length := by
  induction l generalizing S with
  | nil => rfl
  | cons y r ih => simp [codes, ih]
theorem bytes_snoc (l : List Act) (x : Act) : bytesOf (l ++ [x]) = bytesOf l + x.b.size := by simp [bytesOf]
theorem bytes_take_le (l : List Act) (k : Nat) : bytesOf (l.take k) ≤ bytesOf l := by
  have h : bytesOf l = bytesOf (l.take k) + bytesOf (l.drop k) := by
    unfold bytesOf
    rw [← List.sum_append, ← List.map_append, List.take_append_drop]
  omega
theorem take_act {l : List Act} {k : Nat} {x : Act} (h : l[k]? = some x) : l.take (k + 1) = l.take k ++ [x] := by
  have hk : k < l.length := by
    rcases Nat.lt_or_ge k l.length with h1 | h1
    · exact h1
    · rw [List.getElem?_eq_none h1] at h; cases h
  rw [List.take_succ_eq_append_getElem hk]
  rw [List.getElem?_eq_getElem hk] at h
  simp only [Option.some.injEq] at h
  rw [h]
theorem info_errno : (Try.prog.info? 35).map (fun i => (i.zero, i.size, i.bytes)) = some (some (.int .i64 0), 1, 8) := by kernel_rfl

set_option maxHeartbeats 8000000 in
set_option maxRecDepth 100000 in
theorem plays_any {w : World} {base : Nat} {L : Lay} {S : Disk} {n m : Nat} (D : Disc w base L S n m) (v : Value) (l : List Act) (ha : ActsAt w base v l) (hn : n + l.length ≤ 1048576) (hm : m + bytesOf l ≤ 1048576) :
    Calls Try.prog 10 #[.pointer (some ⟨L.d, 0, none⟩), v] w fun e w' => ∃ u L', e = .returned u ∧ L'.d = L.d ∧ Disc w' base L' (played S l) (n + l.length) (m + bytesOf l) ∧ Below base w w' ∧
      w'.ownsRow w.heap.size 35 1 u l.length ((codes S l).map (.int .i64)) ∧ Turns (Own L) w w' ∧ (∀ b, Own L' b → Own L b ∨ w.heap.size ≤ b) ∧ ∀ b, u.ownBlock = some b → ¬ Own L' b := by
  obtain ⟨va, vc, hv⟩ := ha.shape
  have HA := Lib.hid ha; have HD := Lib.hid D
  have hln : (l.length : Int) ≤ 1048576 := by omega
  have HN := Lib.hid hn; have HM := Lib.hid hm; have HV := Lib.hid hv
  rw [hv] at HA ⊢
  clear ha D hn hm hv
  obtain ⟨d, hd⟩ : ∃ d, d = L.d := ⟨_, rfl⟩
  rw [← hd]
  have HLD := Lib.hid hd; clear hd
  go_enter Try.func10, Try.ntmps10
  go_wp2_with fail
  go_loopw [6, 5] (fun z u wr => ∃ (k : Nat) (L' : Lay), k ≤ l.length ∧ z = .int .i64 (k : Int) ∧ Hid (L'.d = d ∧ Disc wr base L' (played S (l.take k)) (n + k) (m + bytesOf (l.take k)) ∧ Below base w wr ∧
      wr.ownsRow w.heap.size 35 1 u k ((codes S (l.take k)).map (.int .i64)) ∧ Turns (Own L) w wr ∧ (∀ b, Own L' b → Own L b ∨ w.heap.size ≤ b) ∧ ∀ b, u.ownBlock = some b → ¬ Own L' b)) (fun z _ _ => l.length - (intOf z).toNat)
  case atStart => exact ⟨0, L, by omega, rfl, Lib.hid ⟨HLD.out.symm, HD.out, Below.refl _ _, World.ownsRow_nil .., Turns.refl _ _, fun _ h => Or.inl h, fun b hb => by simp [Value.ownBlock] at hb⟩⟩
  case round =>
    obtain ⟨k, L', hk, rfl, HK⟩ := hrel
    by_cases hlt : k < l.length
    · have hlt2 : (k : Int) < l.length := by omega
      obtain ⟨x, hx⟩ : ∃ x, l[k]? = some x := ⟨_, List.getElem?_eq_getElem hlt⟩
      have hAw := HA.out.below HK.out.2.2.1
      rcases hAw with ⟨h1, _⟩ | ⟨b, off, cap, h1, hb1, hb2, hc⟩
      · rw [h1] at hx; simp at hx
      simp only [Value.slice.injEq, true_and] at h1
      obtain ⟨rfl, rfl⟩ := h1
      obtain ⟨hfx, vk, vs, hol, a0, a1, a2, a3, a4, a5, a6⟩ := hc k x hx
      have hbt : m + bytesOf (l.take k) ≤ 1048576 := by have := bytes_take_le l k; have := HM.out; omega
      have hdo := does_any HK.out.2.1 (by have := HN.out; omega) hbt x hfx vk vs hol
      rw [HK.out.1] at hdo
      unfold actV at hdo
      have HDO := Lib.hid hdo; have HX := Lib.hid hx; have HFX := Lib.hid hfx
      clear hdo hc hbt hb1 hb2 hol hx hfx
      obtain ⟨c, hcd⟩ : ∃ c, c = (does (played S (l.take k)) x).2.2 := ⟨_, rfl⟩
      unfold Did at HDO
      rw [← hcd] at HDO
      obtain ⟨str, hstr⟩ : ∃ str, str = (⟨(does (played S (l.take k)) x).2.1.toArray⟩ : ByteArray) := ⟨_, rfl⟩
      rw [← hstr] at HDO
      have HCD := Lib.hid hcd
      clear hcd hstr
      go_wp2_with fail
      refine HDO.out.mono ?_
      rintro e w2 ⟨rfl, hg⟩
      obtain ⟨i0, hi, hz0, hz1, hz2⟩ := info_parts info_errno
      obtain ⟨k1, k2, k3, k4, k5, k6, k7⟩ := HK.out
      have hg' := hg
      obtain ⟨L2, hld2, hh2, ht2, ho2⟩ := hg
      have hraw : w2.ownsRow w.heap.size 35 1 u5 k ((codes S (l.take k)).map (.int .i64)) := ownsRow_frame k4 (fun b hb => ht2.block b (ownsRow_lt k4 hb) (k7 b hb))
      have hgood := good_does k2.good x HFX.out.n
      have hbyt : m + bytesOf (l.take k) + x.b.size = m + bytesOf (l.take (k + 1)) := by rw [take_act HX.out, bytes_snoc]; omega
      have hD2 : Disc w2 base L2 (played S (l.take (k + 1))) (n + (k + 1)) (m + bytesOf (l.take (k + 1))) := by
        rw [take_act HX.out, played_snoc]
        rw [hbyt, take_act HX.out] at hgood
        exact ⟨hh2, hgood, fun b hb => (ho2 b hb).elim (k2.own b) (fun h => Nat.le_trans k2.lo h), Nat.le_trans k2.lo ht2.size⟩
      have hB2 : Below base w w2 := k3.trans (ht2.to_below k2.lo k2.own)
      have hT2 : Turns (Own L) w w2 := k5.trans ht2 (fun b hb => (k6 b hb))
      have hO2 : ∀ b, Own L2 b → Own L b ∨ w.heap.size ≤ b := fun b hb => (ho2 b hb).elim (k6 b) (fun h => Or.inr (Nat.le_trans k5.size h))
      have hU2 : ∀ b, u5.ownBlock = some b → ¬ Own L2 b := fun b hb ho => (ho2 b ho).elim (k7 b hb) (fun h => by have := ownsRow_lt k4 hb; omega)
      have hlo : w.heap.size ≤ w2.heap.size := hT2.size
      have H2 := Lib.hid (And.intro hD2 (And.intro hB2 (And.intro hT2 (And.intro hO2 (And.intro hU2 (hld2.trans k1))))))
      have hbw : base ≤ w.heap.size := HD.out.lo
      have hkk : k + 1 ≤ 1048576 := by have := HN.out; omega
      clear k1 k2 k3 k4 k5 k6 k7 hg' hld2 hh2 ht2 ho2 hgood hbyt hD2 hB2 hT2 hO2 hU2 HDO a0 a1 a2 a3 a4 a5 a6 HK
      go_wp2_with (at_builtin; refine wpList_append_lies _ rfl _ _ 32 rfl w.heap.size 35 i0 _ 1 8 Try.underlying32 hi hz0 hz1 hz2 rfl (by omega) u5 _ _ rfl (hraw.alloc _) ⟨w2.heap.size, 0, none⟩ 1 1 [.int .i64 c] rfl rfl (World.news_of_block (cs := #[.int .i64 c]) (t := 35) (fr := (0, 0)) (heap_alloc_new w2 _)) (by simp [Value.oneCell']) (by omega) (by unfold maxLen; omega) (by omega) (by simp; omega) (w2.heap.size + 1) (by simp) ?_)
      intro gg cap w3 hown3 hg3 hat3 hlt3
      have HE : Hid (L2.d = d ∧ Disc w3 base L2 (played S (l.take (k + 1))) (n + (k + 1)) (m + bytesOf (l.take (k + 1))) ∧ Below base w w3 ∧ w3.ownsRow w.heap.size 35 1 (.slice (some ⟨gg, 0, none⟩) (k + 1) cap) (k + 1) ((codes S (l.take (k + 1))).map (.int .i64)) ∧ Turns (Own L) w w3 ∧ (∀ b, Own L2 b → Own L b ∨ w.heap.size ≤ b) ∧ ∀ b, (Value.slice (some ⟨gg, 0, none⟩) (k + 1) cap).ownBlock = some b → ¬ Own L2 b) := by
        obtain ⟨hD2, hB2, hT2, hO2, hU2, hld⟩ := H2.out
        have hDa := hD2.below ((Below.refl _ w2).alloc (Nat.le_refl _) (.cells #[.int .i64 c] 35))
        refine Lib.hid ⟨hld, ⟨hDa.holds.frame (fun b hb => hg3.block b (hDa.holds.own_lt hb) (fun e => hU2 b e.symm hb)), hDa.good, hDa.own, Nat.le_trans hDa.lo hg3.size⟩, (hB2.alloc hD2.lo _).grown hg3 hDa.lo (fun j hj => Nat.le_trans hbw (World.ownsRow.lt hraw j hj).1), ?_, (hT2.alloc _).trans (Turns.of_grown (P := fun b => w.heap.size ≤ b) hg3 (fun j hj => (World.ownsRow.lt hraw j hj).1)) (fun _ h => Or.inr h), hO2, fun b hb ho => ?_⟩
        · rw [take_act HX.out, codes_snoc, List.map_append, ← HCD.out]
          exact hown3
        · have hb2 : gg = b := by simpa [Value.ownBlock] using hb
          subst hb2
          rcases hat3 with h1 | h1
          · exact hU2 _ h1 ho
          · have := hD2.holds.own_lt ho
            omega
      clear hown3 hg3 hat3 hlt3 hraw H2
      go_wp2_with fail
      go_roundw
      case rel => exact ⟨k + 1, L2, by omega, by go_num, HE⟩
      case measure => simp [intOf]; omega
    · obtain rfl : k = l.length := by omega
      clear hlt
      go_wp2_with fail
      go_ret
      obtain ⟨k1, k2, k3, k4, k5, k6, k7⟩ := HK.out
      rw [List.take_length] at k2 k4
      exact ⟨u5, L', rfl, k1, k2, k3, k4, k5, k6, k7⟩

end Go.Proofs.Ytefoijamedciiaa
