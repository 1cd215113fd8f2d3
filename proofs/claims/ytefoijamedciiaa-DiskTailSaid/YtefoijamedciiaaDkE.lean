/- The walks of Sync, Append over a disk that lies in memory. -/
import Derived.Test.YtefoijamedciiaaDkD
import Derived.Lib.AppendStr
import Derived.Maps.AppendAt
namespace Go.Proofs.Ytefoijamedciiaa
open Go.RowKit Go.Maps
open Dk (Dir Chg Disk File Str)

section
variable {L : Lay} {S : Disk} (w : World)

/-- append(b, s...): where the new slice lies. -/
theorem run_append_str_at {w : World} (t u ty e : TypeId) (i : TypeInfo) (ht : Try.prog.underlying t = some (.slice e)) (hu : Try.prog.underlying u = some .string) (hi : Try.prog.info? e = some i) (hz : i.zero = some (.int .u8 0))
    (hsize : i.size = 1) (hby : i.bytes = 1) (v : Value) (n : Nat) (xs : List Value) (hown : w.ownsRow 0 e 1 v n xs) (s : ByteArray) (h63 : n + s.size ≤ maxLen) (hbytes : n + s.size ≤ 140737488355328) :
    ∃ v' w', (Builtin.append_ #[t, u] ty #[v, .string s]).run Try.prog w = .ok v' w' ∧ w'.ownsRow 0 e 1 v' (n + s.size) (xs ++ Lib.strCells s) ∧ w.grownBy w' v.ownBlock ∧ (∀ b, v'.ownBlock = some b → v.ownBlock = some b ∨ w.heap.size ≤ b) := by
  obtain ⟨v', w', hr, h2, h3, h4⟩ := Lib.run_append_own_string (P := Try.prog) w 0 t u ty e i ht hu hi hz hsize hby v n xs hown s h63 hbytes (Nat.zero_le _)
  refine ⟨v', w', hr, h2, h3, fun b hb => ?_⟩
  have hxl : xs.length = n := by simpa using hown.1
  rcases hown.2 with ⟨rfl, rfl⟩ | ⟨g, cap, cur, rfl, hbg, hg, hnc, hcm, hcs, htake⟩
  · have hx : xs = [] := List.eq_nil_of_length_eq_zero hxl
    subst hx
    obtain ⟨v2, w2, hr2, ho2, _, _⟩ := Lib.run_append_own_string (P := Try.prog) w w.heap.size t u ty e i ht hu hi hz hsize hby (.slice none 0 0) 0 [] (World.ownsRow_nil ..) s h63 hbytes (Nat.le_refl _)
    rw [hr] at hr2
    simp only [Result.ok.injEq] at hr2
    obtain ⟨rfl, rfl⟩ := hr2
    exact Or.inr (World.ownsRow.lt ho2 b hb).1
  · by_cases hroom : n + s.size ≤ cap
    · have hcs' : cur.size = cap := by simpa using hcs
      have hr2 := Lib.run_append_room_string (P := Try.prog) w t u ty e i ht hu hi hsize g n cap cur hg s hroom (by omega)
      rw [hr] at hr2
      simp only [Result.ok.injEq] at hr2
      obtain ⟨rfl, rfl⟩ := hr2
      exact Or.inl hb
    · have holds : ∀ j u, xs[j]? = some u → w.cell? ((⟨g, 0, none⟩ : Addr).add j) = some u := hown.cells (g := g) rfl
      have hsmall : n + s.size ≤ 9223372036854775807 := by simp only [maxLen] at h63; omega
      have hr2 := Lib.run_append_grow_string (P := Try.prog) w t u ty e i (.int .u8 0) ht hu hi hz ⟨g, 0, none⟩ n cap xs (by rw [hsize]; simpa using hxl) holds s (by omega) (by omega) (by rw [hby]; exact growslice_fits (by omega) (by omega))
      rw [hr] at hr2
      simp only [Result.ok.injEq] at hr2
      obtain ⟨rfl, rfl⟩ := hr2
      right
      have : w.heap.size = b := by simpa [Value.ownBlock] using hb
      omega
theorem wpList_append_str_at {w : World} {ops : Array Oper} {rest : List Oper} {o : Oper} {a : Act} {Q : Exit → Act → World → Prop} (hgd : o.guard = none) (sl x : Operand) (t u : TypeId)
    (ho : o.op = .call { callee := .builtin .append, args := #[sl, x], argTypes := #[t, u] })
    (e : TypeId) (i : TypeInfo) (ht : Try.prog.underlying t = some (.slice e)) (hu : Try.prog.underlying u = some .string) (hi : Try.prog.info? e = some i) (hz : i.zero = some (.int .u8 0))
    (hsize : i.size = 1) (hby : i.bytes = 1)
    (v : Value) (n : Nat) (xs : List Value) (hs : a.eval sl = v) (hown : w.ownsRow 0 e 1 v n xs) (s : ByteArray) (hx : a.eval x = .string s)
    (h63 : n + s.size ≤ maxLen) (hbytes : n + s.size ≤ 140737488355328)
    (h : ∀ v' w', w'.ownsRow 0 e 1 v' (n + s.size) (xs ++ Lib.strCells s) → w.grownBy w' v.ownBlock → (∀ b, v'.ownBlock = some b → v.ownBlock = some b ∨ w.heap.size ≤ b) → wpList Try.prog ops Q rest (a.put o.dst v') w') : wpList Try.prog ops Q (o :: rest) a w := by
  refine wpList_plain hgd fun K hK => ?_
  obtain ⟨v', w', hr, h2, h3, h4⟩ := run_append_str_at t u o.type e i ht hu hi hz hsize hby v n xs hown s h63 hbytes
  unfold Oper.wp execOp
  simp only [ho, resolve, invoke, builtin, Sem.run_bind, Sem.run_pure, Result.andThen_ok, List.map_toArray, List.map_cons, List.map_nil, hs, hx, hr]
  exact hK _ _ (h v' w' h2 h3 h4)

/-- What an operation answers. -/
def errV (n : Int) : Value := .int .i64 n

set_option maxHeartbeats 2000000 in
set_option maxRecDepth 100000 in
theorem sync_any (h : Holds w L S) (F : Fits S) (s : ByteArray) (hs : s.size ≤ maxLen) : Calls Try.prog 24 #[.pointer (some ⟨L.d, 0, none⟩), .string s] w fun e w' => e = .returned (errV (S.sync s.data.toList).1) ∧ Goes L w (S.sync s.data.toList).2 w' := by
  have HFI := Lib.hid (find_any w h s hs)
  have HB := Lib.hid (burns_any w h F.fuse)
  have HF := Lib.hid F; clear F
  have HH := Lib.hid h; clear h
  obtain ⟨R, hR⟩ : ∃ R, R = S.sync s.data.toList := ⟨_, rfl⟩
  rw [← hR]
  unfold Disk.sync at hR
  have HR := Lib.hid hR; clear hR
  go_enter Try.func24, Try.ntmps24
  go_wp2_with fail
  refine HFI.out.mono ?_
  rintro e w1 ⟨rfl, rfl⟩
  clear HFI hs
  unfold findV
  cases hd : S.down with
  | true =>
    have HE : Hid (R = (7, S)) := by have := HR.out; rw [hd] at this; exact Lib.hid this
    rw [if_pos rfl]
    clear HR HB
    go_wp2_with fail
    go_ret
    rw [HE.out]
    exact ⟨rfl, Goes.stay HH.out⟩
  | false =>
    rw [if_neg (by simp)]
    cases hl : Dk.look s.data.toList S.now with
    | none =>
      have HE : Hid (R = (4, S)) := by have := HR.out; rw [hd, hl] at this; exact Lib.hid this
      dsimp only
      clear HR HB
      go_wp2_with fail
      go_ret
      rw [HE.out]
      exact ⟨rfl, Goes.stay HH.out⟩
    | some i =>
      have hi := HH.out.inNow _ (Dk.mem_of_look hl)
      dsimp only at hi ⊢
      go_wp2_with fail
      refine HB.out.mono ?_
      rintro e w2 ⟨rfl, hh2, ht2, hz2⟩
      have HH2 := Lib.hid hh2; have HT2 := Lib.hid ht2
      clear hh2 ht2 HB
      cases hb : S.burnt with
      | true =>
        have HE : Hid (R = (7, S.burn)) := by have := HR.out; rw [hd, hl, hb] at this; exact Lib.hid this
        clear HR
        go_wp2_with fail
        go_ret
        rw [HE.out]
        exact ⟨rfl, Goes.same HH2.out HT2.out.box⟩
      | false =>
        have HE : Hid (R = (0, S.burn.setFile i ⟨(S.file i).data, (S.file i).data.length⟩)) := by have := HR.out; rw [hd, hl, hb] at this; exact Lib.hid this
        clear HR
        have hf := HH2.out.file i hi
        have HFI := Lib.hid hf
        obtain ⟨a, cap, hsh⟩ := row_shape hf.row
        have d0 : w2.cell? ⟨L.loc i, 0, none⟩ = some (.slice a (S.burn.file i).data.length cap) := by rw [cell_of hf.box, hsh]; rfl
        rw [(burn_now S).2.2.2.1] at d0
        have d1 : w2.cell? ⟨L.loc i, 1, none⟩ = some (.int .i64 ((S.burn.file i).lasts : Int)) := by rw [cell_of hf.box]; rfl
        have d2 : w2.frozen? ⟨L.loc i, 1, none⟩ = false := unfrozen_of hf.box 1
        have hlen := HF.out.dat i
        obtain ⟨n, hn⟩ : ∃ n : Nat, n = (S.file i).data.length := ⟨_, rfl⟩
        rw [← hn] at d0 hlen
        have hlen2 : (n : Int) ≤ 1099511627776 := by omega
        have HN := Lib.hid hn
        clear hn hsh hf hlen
        go_wp2_with fail
        go_ret
        rw [HE.out]
        have hs := HH2.out.setLasts i n hi (by rw [(burn_now S).2.2.2.1, HN.out]; exact Nat.le_refl _)
        rw [(burn_now S).2.2.2.1] at hs
        refine ⟨rfl, Goes.same (by rw [← HN.out]; exact hs) (HT2.out.box.trans (Turns.of_setCell (P := Own L) w2 ⟨L.loc i, 1, none⟩ _ (Or.inr (Or.inr (Or.inr (Or.inr ⟨i, hi, Or.inl rfl⟩))))) (fun x hx => Or.inl hx))⟩

set_option maxHeartbeats 4000000 in
set_option maxRecDepth 100000 in
theorem append_any (h : Holds w L S) (F : Fits S) (s data : ByteArray) (hs : s.size ≤ maxLen) (hda : data.size ≤ 1099511627776) : Calls Try.prog 23 #[.pointer (some ⟨L.d, 0, none⟩), .string s, .string data] w fun e w' => e = .returned (errV (S.append s.data.toList data.data.toList).1) ∧ Goes L w (S.append s.data.toList data.data.toList).2 w' := by
  have HFI := Lib.hid (find_any w h s hs)
  have HB := Lib.hid (burns_any w h F.fuse)
  obtain ⟨c0, c1, c2, c3, c4, c5, c6⟩ := h.cells
  have hr0 := F.room0
  have hr1 := F.room
  have hu0 := F.least
  have hu1 := F.most
  have HF := Lib.hid F; clear F
  have HH := Lib.hid h; clear h
  have hdi : (data.size : Int) ≤ 1099511627776 := by omega
  obtain ⟨R, hR⟩ : ∃ R, R = S.append s.data.toList data.data.toList := ⟨_, rfl⟩
  rw [← hR]
  unfold Disk.append at hR
  rw [← Lib.size_eq] at hR
  have HR := Lib.hid hR; clear hR
  go_enter Try.func23, Try.ntmps23
  go_wp2_with fail
  refine HFI.out.mono ?_
  rintro e w1 ⟨rfl, rfl⟩
  clear HFI hs
  unfold findV
  cases hd : S.down with
  | true =>
    have HE : Hid (R = (7, S)) := by have := HR.out; rw [hd] at this; exact Lib.hid this
    rw [if_pos rfl]
    clear HR HB
    go_wp2_with fail
    go_ret
    rw [HE.out]
    exact ⟨rfl, Goes.stay HH.out⟩
  | false =>
    rw [if_neg (by simp)]
    cases hl : Dk.look s.data.toList S.now with
    | none =>
      have HE : Hid (R = (4, S)) := by have := HR.out; rw [hd, hl] at this; exact Lib.hid this
      dsimp only
      clear HR HB
      go_wp2_with fail
      go_ret
      rw [HE.out]
      exact ⟨rfl, Goes.stay HH.out⟩
    | some i =>
      have hi := HH.out.inNow _ (Dk.mem_of_look hl)
      dsimp only at hi ⊢
      have HR1 : Hid (R = if (data.size : Int) > S.room - S.used then (6, S) else if S.burnt then (7, S.burn) else (0, { S.burn.setFile i ⟨(S.file i).data ++ data.data.toList, (S.file i).lasts⟩ with used := S.used + data.size })) := by have := HR.out; rw [hd, hl] at this; exact Lib.hid this
      clear HR
      by_cases hfull : S.room - S.used < (data.size : Int)
      · have HE : Hid (R = (6, S)) := by have := HR1.out; rw [if_pos hfull] at this; exact Lib.hid this
        clear HR1
        go_wp2_with fail
        go_region
        go_wp2_with fail
        go_ret
        rw [HE.out]
        exact ⟨rfl, Goes.same HH.out.drew (Turns.refl _ _).drew⟩
      · have HR2 : Hid (R = if S.burnt then (7, S.burn) else (0, { S.burn.setFile i ⟨(S.file i).data ++ data.data.toList, (S.file i).lasts⟩ with used := S.used + data.size })) := by have := HR1.out; rw [if_neg hfull] at this; exact Lib.hid this
        clear HR1 HB
        have HB := Lib.hid (burns_any w1.drew HH.out.drew HF.out.fuse)
        have hnf : (data.size : Int) ≤ S.room - S.used := by omega
        clear hfull
        go_wp2_with fail
        go_region
        go_wp2_with fail
        refine HB.out.mono ?_
        rintro e w2 ⟨rfl, hh2, ht2, hz2⟩
        have HH2 := Lib.hid hh2; have HT2 : Hid (Turns (Own L) w1 w2) := Lib.hid ((Turns.refl (Own L) w1).drew.trans ht2.box (fun _ hx => Or.inl hx))
        clear hh2 ht2 hz2 HB c0 c1 c2 c3 c4 c5 c6
        cases hb : S.burnt with
        | true =>
          have HE : Hid (R = (7, S.burn)) := by have := HR2.out; rw [hb] at this; exact Lib.hid this
          clear HR2
          go_wp2_with fail
          go_ret
          rw [HE.out]
          exact ⟨rfl, Goes.same HH2.out HT2.out⟩
        | false =>
          have HE : Hid (R = (0, { S.burn.setFile i ⟨(S.file i).data ++ data.data.toList, (S.file i).lasts⟩ with used := S.used + data.size })) := by have := HR2.out; rw [hb] at this; exact Lib.hid this
          clear HR2
          obtain ⟨i0, hin, hz0, hz1, hz2⟩ := info_parts info_u8
          have hf := HH2.out.file i hi
          have HFI := Lib.hid hf
          have d0 : w2.cell? ⟨L.loc i, 0, none⟩ = some (L.dat i) := by rw [cell_of hf.box]; rfl
          have hlen := HF.out.dat i
          have hraw : w2.ownsRow 0 5 1 (L.dat i) (S.file i).data.length (Lib.byteCells (S.file i).data) := by have := hf.row; rw [(burn_now S).2.2.2.1] at this; exact this
          have A := HH2.out.lone
          have hle := hf.le
          rw [(burn_now S).2.2.2.1] at hle
          have HLE := Lib.hid hle
          obtain ⟨l, hll⟩ : ∃ l, l = (S.file i).data := ⟨_, rfl⟩
          rw [← hll] at hraw hlen
          have HLL := Lib.hid hll
          have e0 := HH2.out.cells.2.1
          rw [(burn_now S).2.2.2.2.2.1] at e0
          have k1 : ∀ w3 : World, w2.grownBy w3 (L.dat i).ownBlock → w3.cell? ⟨L.d, 1, none⟩ = some (.int .i64 S.used) ∧ w3.frozen? ⟨L.d, 1, none⟩ = false ∧ w3.cell? ⟨L.loc i, 0, none⟩ = some (L.dat i) ∧ w3.frozen? ⟨L.loc i, 0, none⟩ = false := fun w3 hg => by
            have b1 := hg.block L.d (heap_lt HH2.out.box) (fun e => (A.dat i hi _ e.symm).1 rfl)
            have b2 := hg.block (L.loc i) (heap_lt hf.box) (fun e => (A.dat i hi _ e.symm).2.2.2.2 i hi rfl)
            exact ⟨cell_kept e0 b1, (World.frozen?_of_block (a := ⟨L.d, 1, none⟩) b1).trans (HH2.out.soft 1), cell_kept d0 b2, (World.frozen?_of_block (a := ⟨L.loc i, 0, none⟩) b2).trans (unfrozen_of hf.box 0)⟩
          have K1 := Lib.hid k1; clear k1 A hf hle hll
          go_wp2_with (at_builtin; refine wpList_append_str_at rfl _ _ 65 9 rfl 5 i0 Try.underlying65 Try.underlying9 hin hz0 hz1 hz2 _ _ _ rfl hraw data rfl ?c3 ?c4 ?_)
          case c3 => unfold maxLen; omega
          case c4 => omega
          intro v' w3 hown' hgrow hat
          obtain ⟨va, vc, hva⟩ := row_shape hown'
          obtain ⟨k1, k2, k3, k4⟩ := K1.out w3 hgrow
          have HS : Hid (Holds (w3.setCell ⟨L.loc i, 0, none⟩ v') { L with dat := fun k => if k = i then v' else L.dat k } (S.burn.setFile i ⟨(S.file i).data ++ data.data.toList, (S.file i).lasts⟩)) := by
            have hh := HH2.out.setData i hi v' (l ++ data.data.toList) hgrow (by
              rw [List.length_append, ← Lib.size_eq, byteCells_append]
              exact hown') (by rw [(burn_now S).2.2.2.1, List.length_append]; have := HLE.out; rw [← HLL.out] at this; omega) hat
            rw [(burn_now S).2.2.2.1, HLL.out] at hh
            exact Lib.hid hh
          have HT3 : Hid (Turns (Own L) w1 (w3.setCell ⟨L.loc i, 0, none⟩ v') ∧ ∀ b, v'.ownBlock = some b → (L.dat i).ownBlock = some b ∨ w1.heap.size ≤ b) := Lib.hid ⟨(HT2.out.trans (Turns.of_grown (P := Own L) hgrow (fun k e => Or.inr (Or.inr (Or.inr (Or.inr ⟨i, hi, Or.inr e⟩))))) (fun _ hx => Or.inl hx)).trans (Turns.of_setCell (P := Own L) w3 ⟨L.loc i, 0, none⟩ _ (Or.inr (Or.inr (Or.inr (Or.inr ⟨i, hi, Or.inl rfl⟩))))) (fun _ hx => Or.inl hx),
            fun b hb => (hat b hb).imp id (fun h => Nat.le_trans HT2.out.size h)⟩
          have HV := Lib.hid hva
          clear hown' hgrow hat K1 HT2 hraw HLE
          rw [hva] at HS HT3 ⊢
          clear hva
          go_wp2_with fail
          go_ret
          rw [HE.out]
          rw [← HV.out] at HS HT3 ⊢
          refine ⟨rfl, { L with dat := fun k => if k = i then v' else L.dat k }, rfl, ?_, HT3.out.1.trans (Turns.of_setCell (P := Own L) _ ⟨L.d, 1, none⟩ _ (Or.inl rfl)) (fun _ hx => Or.inl hx), fun b hb => ?_⟩
          · exact HS.out.setBox 1 (.int .i64 (S.used + data.size)) _ rfl rfl rfl rfl rfl rfl
          · rcases hb with h1 | h1 | h1 | h1 | ⟨k, hk, h1 | h1⟩
            · exact Or.inl (Or.inl h1)
            · exact Or.inl (Or.inr (Or.inl h1))
            · exact Or.inl (Or.inr (Or.inr (Or.inl h1)))
            · exact Or.inl (Or.inr (Or.inr (Or.inr (Or.inl h1))))
            · exact Or.inl (Or.inr (Or.inr (Or.inr (Or.inr ⟨k, hk, Or.inl h1⟩))))
            · dsimp only at h1
              by_cases e : k = i
              · rw [if_pos e] at h1
                rcases HT3.out.2 b h1 with h2 | h2
                · exact Or.inl (Or.inr (Or.inr (Or.inr (Or.inr ⟨i, hi, Or.inr h2⟩))))
                · exact Or.inr h2
              · rw [if_neg e] at h1
                exact Or.inl (Or.inr (Or.inr (Or.inr (Or.inr ⟨k, hk, Or.inr h1⟩))))

end
end Go.Proofs.Ytefoijamedciiaa
