/- The walks of sort.Search and of block's Seek. -/
import Derived.Test.YtjpmcphfiiiecaaBoI
import Derived.Test.YtjpmcphfiiiecaaBoOrd
namespace Go.Proofs.Ytjpmcphfiiiecaa.Bo
open Go Go.RowKit
set_option linter.unusedVariables false

/-- The keys rise. -/
def Asc (l : List En) : Prop := l.Pairwise fun a b => Op.bytesLess a.key.data.toList b.key.data.toList = true
theorem good_asc : ∀ (l : List En) (s : St), goodb s l = true → (∀ e ∈ l, s.n = 0 ∨ Op.bytesLess s.last.data.toList e.key.data.toList = true) ∧ Asc l
  | [], s, _ => ⟨fun e he => (by cases he), List.Pairwise.nil⟩
  | e :: l, s, h => by
    rw [goodb, Bool.and_eq_true, decide_eq_true_eq] at h
    obtain ⟨h1, h2⟩ := good_asc l _ h.2
    have h3 : ∀ e' ∈ l, Op.bytesLess e.key.data.toList e'.key.data.toList = true := fun e' he' => (h1 e' he').resolve_left (by show s.n + 1 ≠ 0; omega)
    refine ⟨fun e' he' => ?_, List.Pairwise.cons h3 h2⟩
    rcases List.mem_cons.1 he' with rfl | hm
    · exact err_less h.1
    · rcases err_less h.1 with h0 | h0
      · exact Or.inl h0
      · exact Or.inr (bl_trans _ _ _ h0 (h3 e' hm))
/-- Where a key stands, or would stand. -/
def seekN : List En → ByteArray → Nat
  | [], _ => 0
  | e :: l, k => if Op.bytesLess e.key.data.toList k.data.toList = true then seekN l k + 1 else 0
theorem seekN_le : ∀ (l : List En) (k : ByteArray), seekN l k ≤ l.length
  | [], _ => Nat.le_refl _
  | e :: l, k => by
    have := seekN_le l k
    unfold seekN
    split
    · rw [List.length_cons]; omega
    · omega
theorem seekN_below : ∀ (l : List En) (k : ByteArray) (i : Nat) (e : En), l[i]? = some e → i < seekN l k → Op.bytesLess e.key.data.toList k.data.toList = true
  | [], _, _, _, h, _ => by simp at h
  | a :: l, k, i, e, h, hi => by
    unfold seekN at hi
    split at hi
    · rename_i ha
      cases i with
      | zero =>
        simp only [List.getElem?_cons_zero, Option.some.injEq] at h
        rw [← h]; exact ha
      | succ i =>
        simp only [List.getElem?_cons_succ] at h
        exact seekN_below l k i e h (by omega)
    · omega
theorem seekN_above : ∀ (l : List En) (k : ByteArray) (i : Nat) (e : En), Asc l → l[i]? = some e → seekN l k ≤ i → Op.bytesLess e.key.data.toList k.data.toList = false
  | [], _, _, _, _, h, _ => by simp at h
  | a :: l, k, i, e, ha, h, hi => by
    unfold seekN at hi
    have hp := List.pairwise_cons.1 ha
    split at hi
    · cases i with
      | zero => omega
      | succ i =>
        simp only [List.getElem?_cons_succ] at h
        exact seekN_above l k i e hp.2 h (by omega)
    · rename_i hn
      have hn' : Op.bytesLess a.key.data.toList k.data.toList = false := by simpa using hn
      cases i with
      | zero =>
        simp only [List.getElem?_cons_zero, Option.some.injEq] at h
        rw [← h]; exact hn'
      | succ i =>
        simp only [List.getElem?_cons_succ] at h
        have h1 := hp.1 e (List.mem_of_getElem? h)
        cases hc : Op.bytesLess e.key.data.toList k.data.toList with
        | false => rfl
        | true =>
          rw [bl_trans _ _ _ h1 hc] at hn'
          cases hn'
/-- The only place like that. -/
theorem seekN_eq {l : List En} {k : ByteArray} {n : Nat} (hn : n ≤ l.length) (h1 : ∀ i e, l[i]? = some e → i < n → Op.bytesLess e.key.data.toList k.data.toList = true) (h2 : ∀ e, l[n]? = some e → Op.bytesLess e.key.data.toList k.data.toList = false) : seekN l k = n := by
  induction l generalizing n with
  | nil => simp at hn; simp [seekN, hn]
  | cons a l ih =>
    unfold seekN
    cases n with
    | zero => rw [if_neg]; rw [h2 a rfl]; decide
    | succ n =>
      rw [if_pos (h1 0 a rfl (by omega)), ih (by simpa using hn) (fun i e h hi => h1 (i + 1) e (by simpa using h) (by omega)) (fun e h => h2 e (by simpa using h))]

set_option maxHeartbeats 2000000 in
theorem search_any (n r : Nat) (pa pb : Value) (pr : Nat → Bool) (w : World) (hn : n ≤ 1000000) (hr : r ≤ n)
    (hf : ∀ k, k < n → ∀ W, Below w.heap.size w W → Calls Try.prog 34 #[.int .i64 (k : Int), pa, pb] W (Gives (.bool (pr k)) W))
    (h1 : ∀ k, k < r → pr k = false) (h2 : ∀ k, r ≤ k → k < n → pr k = true) :
    Calls Try.prog 33 #[.int .i64 (n : Int), .func (.func 34) #[] #[pa, pb]] w (Gives (.int .i64 (r : Int)) w) := by
  have HF := Lib.hid hf
  have H1 := Lib.hid h1
  have H2 := Lib.hid h2
  clear hf h1 h2
  go_enter Try.func33, Try.ntmps33
  go_wp2_with fail
  go_loopw [5, 6] (fun i j wr => ∃ (a b : Nat), i = .int .i64 a ∧ j = .int .i64 b ∧ a ≤ r ∧ r ≤ b ∧ b ≤ n ∧ Hid (Below w.heap.size w wr)) (fun i j _ => (intOf j).toNat - (intOf i).toNat)
  case atStart => exact ⟨0, n, rfl, rfl, Nat.zero_le _, hr, Nat.le_refl _, Lib.hid (Below.refl _ _)⟩
  case round =>
    obtain ⟨a, b, rfl, rfl, ha, hb, hbn, HB⟩ := hrel
    by_cases hlt : a < b
    · obtain ⟨h, hh⟩ : ∃ h, h = (a + b) / 2 := ⟨_, rfl⟩
      have hm : IntKind.u64.wrap ((a : Int) + b) = (a : Int) + b := by rw [IntKind.wrap_u64]; omega
      have hdiv : ((a : Int) + b) / 2 = h := by omega
      have hw5 : IntKind.i64.wrap (h : Int) = h := by rw [IntKind.wrap_i64]; omega
      have hbnds : a ≤ h ∧ h < b := by omega
      have HHB := Lib.hid hbnds
      clear hh hbnds
      go_wp2_with fail
      refine (HF.out h (by have := HHB.out; omega) wr HB.out).mono ?_
      rintro e w2 ⟨rfl, hb2⟩
      have HB2 : Hid (Below w.heap.size w w2) := Lib.hid (HB.out.trans (hb2.mono HB.out.size))
      clear hb2
      cases hp : pr h with
      | true =>
        have hrh : r ≤ h := by
          rcases Nat.lt_or_ge h r with hx | hx
          · rw [H1.out h hx] at hp; cases hp
          · exact hx
        have HRH := Lib.hid hrh
        clear hp hrh
        go_wp2_with fail
        go_roundw
        case rel => exact ⟨a, h, rfl, rfl, ha, HRH.out, by have := HHB.out; omega, HB2⟩
        case measure => have := HHB.out; simp [intOf]; omega
      | false =>
        have hrh : h < r := by
          rcases Nat.lt_or_ge h r with hx | hx
          · exact hx
          · rw [H2.out h hx (by have := HHB.out; omega)] at hp; cases hp
        have HRH := Lib.hid hrh
        clear hp hrh
        go_wp2_with fail
        go_roundw
        case rel => exact ⟨h + 1, b, by go_num, rfl, by have := HRH.out; omega, hb, hbn, HB2⟩
        case measure => have := HHB.out; simp [intOf]; omega
    · obtain rfl : a = b := by omega
      obtain rfl : r = a := by omega
      go_wp2_with fail
      go_ret
      exact ⟨rfl, HB.out⟩

theorem seek1_any {w : World} {base p q : Nat} {v : Value} {rs : List Row} (h : Blk w base p v rs) (key : ByteArray) (hp : w.cell? ⟨q, 0, none⟩ = some (.pointer (some ⟨p, 0, none⟩))) (hk : w.cell? ⟨q + 1, 0, none⟩ = some (.string key)) (k : Nat) (x : Row) (hx : rs[k]? = some x) :
    Calls Try.prog 34 #[.int .i64 (k : Int), .pointer (some ⟨q, 0, none⟩), .pointer (some ⟨q + 1, 0, none⟩)] w (Gives (.bool (!Op.bytesLess x.2.key.data.toList key.data.toList)) w) := by
  obtain ⟨a, c, rfl⟩ := h.own.shape
  have c0 := h.c0
  obtain ⟨g, rfl, hgl, k0, k1⟩ := h.own.at hx
  have hsee := h.own.sees _ (List.mem_of_getElem? hx)
  obtain ⟨ka, kc, e, -⟩ := id hsee
  have hkl := (List.getElem?_eq_some_iff.1 hx).1
  have hki : (k : Int) < rs.length := by omega
  have hk1 : (0 : Int) ≤ k := by omega
  rw [e] at k0
  have hcv := hsee.convert
  have hcd := (show SeesB w.drew x.1 x.2.key.data.toList from hsee.frame (fun _ _ _ _ => rfl)).convert
  rw [e] at hcv hcd
  obtain ⟨kv, ⟨xk, xv⟩⟩ := x
  dsimp only at *
  have hcv2 : (convert 22 9 (.slice ka xk.data.toList.length kc)).run Try.prog w = .ok (.string xk) w := hcv
  have hcd2 : (convert 22 9 (.slice ka xk.data.toList.length kc)).run Try.prog w.drew = .ok (.string xk) w.drew := hcd
  clear hcv hcd
  generalize xk.data.toList.length = kl at *
  clear h hsee hx hkl e
  generalize rs.length = n at *
  cases hlt : Op.bytesLess xk.data.toList key.data.toList with
  | true =>
    have hlt1 : Op.bytesLess xk.toList key.toList = true := by rw [ByteArray.toList_eq, ByteArray.toList_eq]; exact hlt
    clear hlt
    go_enter Try.func34, Try.ntmps34
    go_wp2_with fail
    go_region
    go_wp2_with fail
    go_ret
    exact ⟨rfl, (Below.refl _ _).drew⟩
  | false =>
    have hlt1 : Op.bytesLess xk.toList key.toList = false := by rw [ByteArray.toList_eq, ByteArray.toList_eq]; exact hlt
    clear hlt
    go_enter Try.func34, Try.ntmps34
    go_wp2_with fail
    go_region
    go_wp2_with fail
    go_ret
    exact ⟨rfl, (Below.refl _ _).drew⟩

/-- The boxes of what Seek's closure captures. -/
theorem caught (w : World) (x : Option Addr) (key : ByteArray) (w' : World) (hb : Below ((w.alloc (.cells #[.pointer x] 30)).alloc (.cells #[.string key] 9)).heap.size ((w.alloc (.cells #[.pointer x] 30)).alloc (.cells #[.string key] 9)) w') :
    w'.cell? ⟨w.heap.size, 0, none⟩ = some (.pointer x) ∧ w'.cell? ⟨w.heap.size + 1, 0, none⟩ = some (.string key) := by
  constructor
  · refine (hb.cell (p := ⟨w.heap.size, 0, none⟩) (by simp; omega)).trans ?_
    refine (((Below.refl _ _).alloc (Nat.le_refl _) _).cell (p := ⟨w.heap.size, 0, none⟩) (by simp)).trans ?_
    rw [cell_of (heap_alloc_new w _)]
    rfl
  · refine (hb.cell (p := ⟨w.heap.size + 1, 0, none⟩) (by simp)).trans ?_
    have := heap_alloc_new (w.alloc (.cells #[.pointer x] 30)) (.cells #[.string key] 9)
    rw [World.size_alloc] at this
    rw [cell_of this]
    rfl
set_option maxHeartbeats 1000000 in
theorem seek_any {w : World} {base p : Nat} {v : Value} {rs : List Row} (h : Blk w base p v rs) (key : ByteArray) (hn : rs.length ≤ 1000000) (ha : Asc (rs.map Prod.snd)) :
    Calls Try.prog 16 #[.pointer (some ⟨p, 0, none⟩), .string key] w (Gives (.int .i64 (seekN (rs.map Prod.snd) key : Int)) w) := by
  have hmf : ∀ (fn : Fn) (first cap : Array Value) (w : World), (Instr.makeFunc fn first cap).run Try.prog w = .ok (.func fn first cap) w := fun _ _ _ _ => rfl
  obtain ⟨W2, hW2⟩ : ∃ W2, W2 = (w.alloc (.cells #[.pointer (some ⟨p, 0, none⟩)] 30)).alloc (.cells #[.string key] 9) := ⟨_, rfl⟩
  have hbw : Below w.heap.size w W2 := by rw [hW2]; exact ((Below.refl _ _).alloc (Nat.le_refl _) _).alloc (by simp) _
  have hb2 := h.below hbw
  have HC : ∀ w', Below W2.heap.size W2 w' → w'.cell? ⟨w.heap.size, 0, none⟩ = some (.pointer (some ⟨p, 0, none⟩)) ∧ w'.cell? ⟨w.heap.size + 1, 0, none⟩ = some (.string key) := fun w' hb => by
    rw [hW2] at hb
    exact caught w _ key w' hb
  have HL := Lib.hid (len_any hb2)
  have HSR := Lib.hid (search_any rs.length (seekN (rs.map Prod.snd) key) (.pointer (some ⟨w.heap.size, 0, none⟩)) (.pointer (some ⟨w.heap.size + 1, 0, none⟩)) (fun k => match rs[k]? with
      | none => true
      | some x => !Op.bytesLess x.2.key.data.toList key.data.toList) W2 hn (by have := seekN_le (rs.map Prod.snd) key; rwa [List.length_map] at this)
    (fun k hk W hb => by
      obtain ⟨c0, c1⟩ := HC W hb
      have hx : rs[k]? = some rs[k] := List.getElem?_eq_getElem hk
      simp only [hx]
      exact seek1_any (hb2.below hb) key c0 c1 k _ hx)
    (fun k hk => by
      have hkl : k < rs.length := by have := seekN_le (rs.map Prod.snd) key; rw [List.length_map] at this; omega
      have hx : rs[k]? = some rs[k] := List.getElem?_eq_getElem hkl
      simp only [hx]
      rw [seekN_below (rs.map Prod.snd) key k rs[k].2 (by rw [List.getElem?_map, hx]; rfl) hk]
      rfl)
    (fun k hk hkl => by
      have hx : rs[k]? = some rs[k] := List.getElem?_eq_getElem hkl
      simp only [hx]
      rw [seekN_above (rs.map Prod.snd) key k rs[k].2 ha (by rw [List.getElem?_map, hx]; rfl) hk]
      rfl))
  have HBW := Lib.hid hbw
  clear h hb2 HC hbw
  generalize seekN (rs.map Prod.snd) key = r at *
  generalize rs.length = n at *
  go_enter Try.func16, Try.ntmps16
  go_wp2_with fail
  rw [← hW2]
  refine HL.out.mono ?_
  rintro e w1 ⟨rfl, rfl⟩
  clear hW2
  go_wp2_with fail
  refine HSR.out.mono ?_
  rintro e w3 ⟨rfl, hb3⟩
  go_wp2_with fail
  go_ret
  exact ⟨rfl, HBW.out.trans (hb3.mono HBW.out.size)⟩
theorem seek_nil (key : ByteArray) (w : World) :
    Calls Try.prog 16 #[.pointer none, .string key] w (Gives (.int .i64 0) w) := by
  have hmf : ∀ (fn : Fn) (first cap : Array Value) (w : World), (Instr.makeFunc fn first cap).run Try.prog w = .ok (.func fn first cap) w := fun _ _ _ _ => rfl
  obtain ⟨W2, hW2⟩ : ∃ W2, W2 = (w.alloc (.cells #[.pointer none] 30)).alloc (.cells #[.string key] 9) := ⟨_, rfl⟩
  have hbw : Below w.heap.size w W2 := by rw [hW2]; exact ((Below.refl _ _).alloc (Nat.le_refl _) _).alloc (by simp) _
  have HL := Lib.hid (len_nil W2)
  have HSR := Lib.hid (search_any 0 0 (.pointer (some ⟨w.heap.size, 0, none⟩)) (.pointer (some ⟨w.heap.size + 1, 0, none⟩)) (fun _ => true) W2 (by omega) (Nat.le_refl _) (fun k hk => by omega) (fun k hk => by omega) (fun k _ hk => by omega))
  have HBW := Lib.hid hbw
  clear hbw
  go_enter Try.func16, Try.ntmps16
  go_wp2_with fail
  rw [← hW2]
  refine HL.out.mono ?_
  rintro e w1 ⟨rfl, rfl⟩
  clear hW2
  go_wp2_with fail
  refine HSR.out.mono ?_
  rintro e w3 ⟨rfl, hb3⟩
  go_wp2_with fail
  go_ret
  exact ⟨rfl, HBW.out.trans (hb3.mono HBW.out.size)⟩
end Go.Proofs.Ytjpmcphfiiiecaa.Bo
