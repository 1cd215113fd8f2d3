/- The walk of SkipSame: for every input it answers true, and nothing that was there has turned. -/
import Derived.Test.YtghfgffgcknbmaaSkTwo
import Derived.StillTailTactics
namespace Go.Proofs.Ytghfgffgcknbmaa.Sk
open Go Go.RowKit Go.Shelf
set_option linter.unusedVariables false
attribute [local go_sem] Oper.semAt_some

/-- Keys and values, without heights. -/
def kv (s : List (It ByteArray)) : List (Str × ByteArray) := s.map fun y => (y.key, y.val)
theorem kv_put {x x' : It ByteArray} (hk : x.key = x'.key) (hv : x.val = x'.val) : ∀ s s' : List (It ByteArray), kv s = kv s' → kv (put x s) = kv (put x' s')
  | [], [], _ => by simp [put, kv, hk, hv]
  | [], y :: s, h => by simp [kv] at h
  | y :: s, [], h => by simp [kv] at h
  | y :: s, y' :: s', h => by
    have h0 : y.key = y'.key ∧ y.val = y'.val ∧ kv s = kv s' := by
      simp only [kv, List.map_cons, List.cons.injEq, Prod.mk.injEq] at h
      exact ⟨h.1.1, h.1.2, h.2⟩
    obtain ⟨h1, h2, h3⟩ := h0
    have ih := kv_put hk hv s s' h3
    rw [put, put, ← h1, ← hk]
    by_cases e : y.key = x.key
    · rw [if_pos e, if_pos e]
      unfold kv at h3 ⊢
      rw [List.map_cons, List.map_cons, h3, hv]
    · rw [if_neg e, if_neg e]
      by_cases e2 : bytesBefore y.key x.key = true
      · rw [if_pos e2, if_pos e2]
        unfold kv at ih ⊢
        rw [List.map_cons, List.map_cons, ih, h1, h2]
      · rw [if_neg e2, if_neg e2]
        unfold kv at h3 ⊢
        simp only [List.map_cons, h3, h1, h2, hk, hv]
theorem kv_mk (f g : Ac → Int) : ∀ (l : List Ac) (s s' : List (It ByteArray)), kv s = kv s' → kv (l.foldl (stepS f) s) = kv (l.foldl (stepS g) s')
  | [], s, s', h => h
  | x :: l, s, s', h => by
    rw [List.foldl_cons, List.foldl_cons]
    refine kv_mk f g l _ _ ?_
    unfold stepS
    split
    · exact kv_put (x := item f x) (x' := item g x) rfl rfl s s' h
    · exact h
theorem kv_find (q : Str → Bool) : ∀ s s' : List (It ByteArray), kv s = kv s' → (s.find? fun y => q y.key).map (fun y => (y.key, y.val)) = (s'.find? fun y => q y.key).map fun y => (y.key, y.val)
  | [], [], _ => rfl
  | [], y :: s, h => by simp [kv] at h
  | y :: s, [], h => by simp [kv] at h
  | y :: s, y' :: s', h => by
    have h0 : y.key = y'.key ∧ y.val = y'.val ∧ kv s = kv s' := by
      simp only [kv, List.map_cons, List.cons.injEq, Prod.mk.injEq] at h
      exact ⟨h.1.1, h.1.2, h.2⟩
    obtain ⟨h1, h2, h3⟩ := h0
    cases hq : q y.key with
    | true => rw [List.find?_cons_of_pos (by simpa using hq), List.find?_cons_of_pos (by rw [← h1]; simpa using hq)]; simp [h1, h2]
    | false => rw [List.find?_cons_of_neg (by simp [hq]), List.find?_cons_of_neg (by rw [← h1]; simp [hq])]; exact kv_find q s s' h3
theorem tellV_kv {o o' : Option (It ByteArray)} (h : o.map (fun y => (y.key, y.val)) = o'.map fun y => (y.key, y.val)) : tellV o = tellV o' := by
  cases o <;> cases o' <;> simp_all [tellV]
theorem getV_kv {o o' : Option (It ByteArray)} (h : o.map (fun y => (y.key, y.val)) = o'.map fun y => (y.key, y.val)) : getV o = getV o' := by
  cases o <;> cases o' <;> simp_all [getV]
theorem kv_seek {s s' : List (It ByteArray)} (h : kv s = kv s') (K : Str) : tellV (seek K s) = tellV (seek K s') := tellV_kv (kv_find (fun k => !bytesBefore k K) s s' h)
theorem kv_after {s s' : List (It ByteArray)} (h : kv s = kv s') (K : Str) : tellV (after K s) = tellV (after K s') := tellV_kv (kv_find (fun k => bytesBefore K k) s s' h)
theorem kv_get {s s' : List (It ByteArray)} (h : kv s = kv s') (K : Str) : getV (find K s) = getV (find K s') := getV_kv (kv_find (fun k => k == K) s s' h)
theorem kv_len {s s' : List (It ByteArray)} (h : kv s = kv s') : s.length = s'.length := by
  have := congrArg List.length h
  simpa [kv] using this

theorem kv_snoc {pre xs : List (It ByteArray)} {x y : It ByteArray} (h : kv pre = (kv xs).take pre.length) (hy : xs[pre.length]? = some y) (h1 : x.key = y.key) (h2 : x.val = y.val) : kv (pre ++ [x]) = (kv xs).take (pre ++ [x]).length := by
  have e : (kv xs)[pre.length]? = some (y.key, y.val) := by unfold kv; rw [List.getElem?_map, hy]; rfl
  rw [List.length_append, List.length_singleton, List.take_add_one, e, ← h]
  simp [kv, h1, h2]
theorem kv_not {pre xs : List (It ByteArray)} {x : It ByteArray} (h : kv (pre ++ [x]) <+: kv xs) : ∃ y, xs[pre.length]? = some y ∧ y.key = x.key ∧ y.val = x.val := by
  obtain ⟨t, ht⟩ := h
  have e : (kv xs)[pre.length]? = some (x.key, x.val) := by
    rw [← ht, show kv (pre ++ [x]) = kv pre ++ [(x.key, x.val)] by simp [kv], List.append_assoc, List.getElem?_append_right (by simp [kv])]
    simp [kv]
  unfold kv at e
  rw [List.getElem?_map] at e
  cases hx : xs[pre.length]? with
  | none => rw [hx] at e; cases e
  | some y =>
    rw [hx] at e
    simp only [Option.map_some, Option.some.injEq, Prod.mk.injEq] at e
    exact ⟨y, rfl, e.1, e.2⟩
theorem equalIn_func_nil (W : World) (d : Nat) (t : TypeId) (fn : Fn) (x y : Array Value) (ps rs : Array TypeId) (v : Bool) (h : Try.prog.underlying t = some (.func ps rs v)) :
    (Op.equalIn (d + 1) t (.func fn x y) .nilFunc).run Try.prog W = .ok false W := by
  simp [Op.equalIn, run_underlying h]
theorem func_nil (fn : Fn) (x y : Array Value) (W : World) : (binOp .eql 42 (.func fn x y) .nilFunc).run Try.prog W = .ok (.bool false) W := by
  simp only [binOp]
  simp [show Op.equal 42 (.func fn x y) .nilFunc = Op.equalIn (9999 + 1) 42 (.func fn x y) .nilFunc from rfl, equalIn_func_nil W 9999 _ fn x y _ _ _ Try.underlying42]

set_option maxHeartbeats 4000000 in
set_option maxRecDepth 100000 in
theorem same_walk (ao : Option Addr) (n cap : Nat) (l : List Ac) (K : ByteArray) (one two : Int) (w : World) (h : SeesA w (.slice ao n cap) l) :
    Calls Try.prog 6 #[.slice ao n cap, .string K, .int .i64 one, .int .i64 two] w fun e w' => e = .returned (.bool true) ∧ Below w.heap.size w w' := by
  have hb0 : Below w.heap.size w (w.alloc (.cells #[.bool false] 4)) := (Below.refl _ _).alloc (Nat.le_refl _) _
  have HG := Lib.hid (great_any _ (h.below hb0))
  have HAW := Lib.hid awake_any
  have HMD := Lib.hid (fun W more (hb : Below w.heap.size w W) (hsm : Small l) => made_any W (h.below hb) hsm more)
  have c0 : (w.alloc (.cells #[.bool false] 4)).cell? ⟨w.heap.size, 0, none⟩ = some (.bool false) := cell_of (heap_alloc_new w _)
  have f0 : (w.alloc (.cells #[.bool false] 4)).frozen? ⟨w.heap.size, 0, none⟩ = false := unfrozen_of (heap_alloc_new w _) 0
  have HB0 := Lib.hid hb0
  obtain ⟨W0, hW0⟩ : ∃ W0, W0 = w.alloc (.cells #[.bool false] 4) := ⟨_, rfl⟩
  have HW0 := Lib.hid hW0
  have hr0 : w.heap.size < W0.heap.size := by rw [hW0]; simp
  rw [← hW0] at HG c0 f0 HB0
  have C0 := Lib.hid (And.intro c0 f0)
  clear h hb0 hW0 c0 f0
  refine (callsIn_wide (n := 20)).1 ?_
  refine callsIn_of_wp_marks Try.func6 rfl trivial ?_ rfl
  simp only [Try.ntmps6, List.size_toArray, List.length_cons, List.length_nil, Nat.reduceAdd, Nat.reduceSub, Array.replicate_succ, Array.replicate_zero, List.push_toArray, List.append_toArray, List.nil_append, List.cons_append]
  refine wpIn_wide.2 ?_
  go_wp2_with fail
  rw [← HW0.out]
  refine HG.out.mono ?_
  rintro e w1 ⟨b, rfl, hb1, hsm⟩
  have HB1 := Lib.hid (HB0.out.trans (hb1.mono HB0.out.size))
  have HC1 := Lib.hid hb1
  have HSM := Lib.hid hsm
  have c1 := (hb1.cell (p := ⟨w.heap.size, 0, none⟩) hr0).trans C0.out.1
  have f1 := (hb1.frozen (p := ⟨w.heap.size, 0, none⟩) hr0).trans C0.out.2
  clear hb1 hsm HG
  cases b with
  | true =>
    go_wp2_with fail
    refine (HAW.out _).mono ?_
    rintro e w2 ⟨rfl, hb2⟩
    have hr1 := Nat.lt_of_lt_of_le hr0 HC1.out.size
    have c2 := (hb2.cell (p := ⟨w.heap.size, 0, none⟩) hr1).trans c1
    have f2 := (hb2.frozen (p := ⟨w.heap.size, 0, none⟩) hr1).trans f1
    have HB2 := Lib.hid (Below.next HB1.out hb2)
    clear hb2
    go_wp2_with fail
    refine ⟨.bool true, ?_, rfl, HB2.out.setCell (p := ⟨w.heap.size, 0, none⟩) (Nat.le_refl _) _⟩
    have hcc := World.cell?_setCell_same' w2 ⟨w.heap.size, 0, none⟩ (.bool true) (by rw [c2]; rfl)
    simp [results, Try.results6, go_sem, hcc]
  | false =>
    by_cases hk : 20000 < K.size
    · go_wp2_with fail
      refine (HAW.out _).mono ?_
      rintro e w2 ⟨rfl, hb2⟩
      have hr1 := Nat.lt_of_lt_of_le hr0 HC1.out.size
      have c2 := (hb2.cell (p := ⟨w.heap.size, 0, none⟩) hr1).trans c1
      have f2 := (hb2.frozen (p := ⟨w.heap.size, 0, none⟩) hr1).trans f1
      have HB2 := Lib.hid (Below.next HB1.out hb2)
      clear hb2
      go_wp2_with fail
      refine ⟨.bool true, ?_, rfl, HB2.out.setCell (p := ⟨w.heap.size, 0, none⟩) (Nat.le_refl _) _⟩
      have hcc := World.cell?_setCell_same' w2 ⟨w.heap.size, 0, none⟩ (.bool true) (by rw [c2]; rfl)
      simp [results, Try.results6, go_sem, hcc]
    · have hki : (K.size : Int) ≤ 20000 := by omega
      have HSML := Lib.hid (HSM.out rfl)
      have C1 : Hid (w1.cell? ⟨w.heap.size, 0, none⟩ = some (.bool false) ∧ w1.frozen? ⟨w.heap.size, 0, none⟩ = false) := Lib.hid ⟨c1, f1⟩
      have HR1 : Hid (w.heap.size < w1.heap.size) := Lib.hid (Nat.lt_of_lt_of_le hr0 HC1.out.size)
      clear hk c1 f1 HSM HC1 C0 hr0 HW0 HB0
      go_wp2_with fail
      refine (HMD.out _ one HB1.out HSML.out).mono ?_
      rintro e w2 ⟨La, rfl, ma, hb2⟩
      have B2 := Lib.hid (Below.next HB1.out hb2)
      have D2 := Lib.hid hb2
      have MA := Lib.hid ma
      clear hb2 ma
      go_wp2_with fail
      refine (HMD.out _ two B2.out HSML.out).mono ?_
      rintro e w3 ⟨Lb, rfl, mb, hb3⟩
      have B3 := Lib.hid (Below.next B2.out hb3)
      have D3 : Hid (Below w1.heap.size w1 w3) := Lib.hid (Below.next D2.out hb3)
      have MA3 := Lib.hid (MA.out.below hb3)
      have MB := Lib.hid mb
      have HKV : Hid (kv (mkS (fh one) l) = kv (mkS (fh two) l)) := Lib.hid (kv_mk _ _ l [] [] rfl)
      have HRA := Lib.hid (mkR_len (fh one) l)
      have HRB := Lib.hid (mkR_len (fh two) l)
      clear hb3 mb MA D2 B2 HB1 HMD
      generalize mkS (fh one) l = sa at *
      generalize mkS (fh two) l = sb at *
      generalize mkR (fh one) l = ra at *
      generalize mkR (fh two) l = rb at *
      have h1 : ∀ o, ∃ a b c, tellV o = .tuple #[.string a, .string b, .bool c] := fun o => by cases o <;> exact ⟨_, _, _, rfl⟩
      have h2 : ∀ o, ∃ a c, getV o = .tuple #[.string a, .bool c] := fun o => by cases o <;> exact ⟨_, _, rfl⟩
      obtain ⟨k1, v1, ok1, e1⟩ := h1 (seek K.data.toList sa)
      obtain ⟨k2, v2, ok2, e2⟩ := h1 (after K.data.toList sa)
      obtain ⟨v3, ok3, e3⟩ := h2 (find K.data.toList sa)
      have Q1 := Lib.hid (fun W (hb : Below w3.heap.size w3 W) => seek_any (MA3.out.lies.below hb) K)
      have Q2 := Lib.hid (fun W (hb : Below w3.heap.size w3 W) => seek_any (MB.out.lies.below hb) K)
      have Q3 := Lib.hid (fun W (hb : Below w3.heap.size w3 W) => after_any (MA3.out.lies.below hb) K)
      have Q4 := Lib.hid (fun W (hb : Below w3.heap.size w3 W) => after_any (MB.out.lies.below hb) K)
      have Q5 := Lib.hid (fun W (hb : Below w3.heap.size w3 W) => get_any (MA3.out.lies.below hb) K)
      have Q6 := Lib.hid (fun W (hb : Below w3.heap.size w3 W) => get_any (MB.out.lies.below hb) K)
      have Q7 := Lib.hid (fun W (hb : Below w3.heap.size w3 W) => len_any (MA3.out.lies.below hb))
      have Q8 := Lib.hid (fun W (hb : Below w3.heap.size w3 W) => len_any (MB.out.lies.below hb))
      rw [← kv_seek HKV.out, e1] at Q2
      rw [← kv_after HKV.out, e2] at Q4
      rw [← kv_get HKV.out, e3] at Q6
      rw [e1] at Q1
      rw [e2] at Q3
      rw [e3] at Q5
      rw [← MB.out.lies.kin.len, ← kv_len HKV.out] at Q8
      rw [← MA3.out.lies.kin.len] at Q7
      clear h1 h2 e1 e2 e3
      go_wp2_with fail
      refine (Q1.out _ (Below.refl _ _)).mono ?_
      rintro e w4 ⟨rfl, hb4⟩
      have E4 := Lib.hid hb4
      clear hb4
      go_wp2_with fail
      refine (Q2.out _ E4.out).mono ?_
      rintro e w5 ⟨rfl, hb5⟩
      have E5 := Lib.hid (Below.next E4.out hb5)
      clear hb5
      go_wp2_with fail
      refine (Q3.out _ E5.out).mono ?_
      rintro e w6 ⟨rfl, hb6⟩
      have E6 := Lib.hid (Below.next E5.out hb6)
      clear hb6
      go_wp2_with fail
      refine (Q4.out _ E6.out).mono ?_
      rintro e w7 ⟨rfl, hb7⟩
      have E7 := Lib.hid (Below.next E6.out hb7)
      clear hb7
      go_wp2_with fail
      refine (Q5.out _ E7.out).mono ?_
      rintro e w8 ⟨rfl, hb8⟩
      have E8 := Lib.hid (Below.next E7.out hb8)
      clear hb8
      go_wp2_with fail
      refine (Q6.out _ E8.out).mono ?_
      rintro e w9 ⟨rfl, hb9⟩
      have E9 := Lib.hid (Below.next E8.out hb9)
      clear hb9
      go_wp2_with fail
      refine (Q7.out _ E9.out).mono ?_
      rintro e wx ⟨rfl, rfl⟩
      go_wp2_with fail
      refine (Q8.out _ E9.out).mono ?_
      rintro e wx ⟨rfl, rfl⟩
      clear Q1 Q2 Q3 Q4 Q5 Q6 Q8 E4 E5 E6 E7 E8
      go_wp2_with fail
      have hfn := func_nil
      obtain ⟨Wc, hWc⟩ : ∃ Wc, Wc = (wx.alloc (.cells #[.slice none 0 0] 58)).alloc (.cells #[.slice none 0 0] 58) := ⟨_, rfl⟩
      rw [← hWc]
      have HWC := Lib.hid hWc
      have hbc : Below wx.heap.size wx Wc := by rw [hWc]; exact ((Below.refl _ wx).alloc (Nat.le_refl _) _).alloc (by simp) _
      have BC := Lib.hid hbc
      clear hWc hbc
      refine (from_any (some ⟨La.b, 0, none⟩) ⟨#[]⟩ Wc (by decide)).mono ?_
      rintro e w10 ⟨rfl, hb10, _, _⟩
      have F10 := Lib.hid (BC.out.trans (hb10.mono BC.out.size))
      have FC10 := Lib.hid hb10
      clear hb10
      go_wp2_with fail
      refine (from_any (some ⟨La.b, 0, none⟩) ⟨#[]⟩ w10 (by decide)).mono ?_
      rintro e w11 ⟨rfl, hb11, hbx1, hbx2⟩
      have F11 := Lib.hid (F10.out.trans (hb11.mono F10.out.size))
      have F1011 := Lib.hid hb11
      have BX := Lib.hid (And.intro hbx1 hbx2)
      clear hb11 hbx1 hbx2
      go_wp2_with fail
      obtain ⟨n₁, hn1⟩ : ∃ n₁, n₁ = w11.heap.size := ⟨_, rfl⟩
      obtain ⟨Wr, hWr⟩ : ∃ Wr : Nat → Prop, Wr = fun k => k = wx.heap.size ∨ k = wx.heap.size + 1 ∨ n₁ ≤ k := ⟨_, rfl⟩
      have HN1 := Lib.hid hn1
      have HWR := Lib.hid hWr
      have hsx : wx.heap.size + 2 ≤ Wc.heap.size := by rw [HWC.out]; simp
      have hsc := F1011.out.size
      have hs10 := (F10.out).size
      have HLX := Lib.hid (MA3.out.lies.below (E9.out.trans (F11.out.mono E9.out.size)))
      have HTWO : Hid (Two n₁ wx.heap.size (wx.heap.size + 1) [] w11) := Lib.hid (by
        have hb : Below Wc.heap.size Wc w11 := FC10.out.trans (F1011.out.mono FC10.out.size)
        refine ⟨.slice none 0 0, .slice none 0 0, ?_, ?_, World.ownsRow_nil .., World.ownsRow_nil .., fun b hb => by simp [Value.ownBlock] at hb⟩
        · rw [hb.block _ (by omega), HWC.out, RowKit.Below.heap_alloc _ _ _ (by simp)]
          exact heap_alloc_new wx _
        · rw [hb.block _ (by omega), HWC.out]
          have := heap_alloc_new (wx.alloc (.cells #[.slice none 0 0] 58)) (.cells #[.slice none 0 0] 58)
          rwa [World.size_alloc] at this)
      have HWU : Hid (∀ k, w11.heap.size ≤ k → Wr k) := Lib.hid (fun k hk => by rw [HWR.out]; exact Or.inr (Or.inr (by rw [HN1.out]; exact hk)))
      have hs11 : w10.heap.size < w11.heap.size := World.block_lt_of_cell? _ _ BX.out.1
      have hs9 := E9.out.size
      have hs10c := FC10.out.size
      have HOWN : Hid (∀ b, Own La sa b → ¬ Wr b) := Lib.hid (fun b hb => by
        have h1 := MA3.out.lies.own_lt hb
        rw [HWR.out]
        rintro (e | e | e) <;> omega)
      have HB1 : Hid (¬ Wr w10.heap.size) := Lib.hid (by
        rw [HWR.out]
        rintro (e | e | e) <;> omega)
      have HSZ := Lib.hid (And.intro hsx (And.intro hsc (And.intro hs10 (And.intro hs11 (And.intro hs9 hs10c)))))
      clear hsx hsc hs10 hs11 hs9 hs10c
      clear hn1 hWr
      refine range_two (n := 20) 23 24 (by decide) (lb := #[.pointer (some ⟨w10.heap.size, 0, none⟩), .pointer (some ⟨w10.heap.size + 1, 0, none⟩)]) rfl
        (from_stops 19 (by decide) w10.heap.size (w10.heap.size + 1) Wr La sa ra ⟨#[]⟩ [] sa rfl seek_all w11 BX.out.1 BX.out.2 HB1.out HLX.out HOWN.out) turnsK_t (turnsK_b HWU.out)
        (fun pre W => Two n₁ wx.heap.size (wx.heap.size + 1) pre W ∧ Turns Wr w11 W) (fun _ _ _ => False)
        (OwnFrom.and (Go.Own.from (Two.own _ _ _) _) (turns_from HWU.out)) (fun _ _ _ _ _ hs _ _ => hs) ⟨HTWO.out, Turns.refl _ _⟩ ?assign ?body ?done ?stop
      case assign =>
        intro lp x W K hK
        unfold roundTmps at hK
        simp only [List.setIfInBounds_toArray, List.set_cons_succ, List.set_cons_zero] at hK ⊢
        gi_wp2
        exact hK
      case stop =>
        rintro D c pre W _ _ h _
        exact h.elim
      case body =>
        rintro lp pre x W ⟨⟨vk, vv, hk, hv, rk, rv, hap⟩, ht⟩ hlt
        have hpl : pre.length ≤ 1000 := by
          have h1 := HRA.out
          have h2 := HSML.out.1
          have h3 := MA3.out.lies.kin.len
          omega
        have c1 : W.cell? ⟨wx.heap.size, 0, none⟩ = some vk := by rw [cell_of hk]; rfl
        have hne : wx.heap.size ≠ wx.heap.size + 1 := by omega
        have hwk : Wr wx.heap.size := by rw [HWR.out]; exact Or.inl rfl
        have hwv : Wr (wx.heap.size + 1) := by rw [HWR.out]; exact Or.inr (Or.inl rfl)
        have hwb : ∀ k, n₁ ≤ k → Wr k := fun k hk => by rw [HWR.out]; exact Or.inr (Or.inr hk)
        have hnw : n₁ ≤ W.heap.size := by rw [HN1.out]; exact ht.size
        obtain ⟨i0, hi, hz0, hz1, hz2⟩ := info_parts info_str
        have HH := Lib.hid (And.intro hk (And.intro hv (And.intro rk (And.intro rv (And.intro hap (And.intro hwk (And.intro hwv (And.intro hwb ht))))))))
        have HPL := Lib.hid hpl
        have HNW := Lib.hid hnw
        unfold roundTmps
        simp only [List.setIfInBounds_toArray, List.set_cons_succ, List.set_cons_zero]
        clear hk hv rk rv hap hwk hwv hwb ht hlt hne hpl hnw
        gi_wp2_with (first
          | (gi_at_builtin; refine wpListIn_append_own_at _ rfl _ _ 58 rfl n₁ 9 i0 _ 1 16 Try.underlying58 hi hz0 hz1 hz2 rfl (by decide) vk _ _ rfl (HH.out.2.2.1.alloc _) ⟨W.heap.size, 0, none⟩ 1 1 [.string (txt x.key)] rfl rfl (cell_one_new _ _ _) (by simp [Value.oneCell']) (by have := HPL.out; unfold maxLen; omega) (by have := HPL.out; omega) (by have := HNW.out; simp; omega) ?_; intro vk' w1 hown1 hgrow1 _ hat1; obtain ⟨g1, cap1, rfl⟩ := ownsRow_succ hown1; have G1 := Lib.hid (grow_one HH.out.1 HH.out.2.2.1 hgrow1 hown1 hat1 HH.out.2.2.2.2.2.1 HH.out.2.2.2.2.2.2.2.1); have G2 := Lib.hid (two_mid HH.out.1 HH.out.2.1 (by omega) HH.out.2.2.1 HH.out.2.2.2.1 HH.out.2.2.2.2.1 G1.out); have kk1 := G1.out.cell; have kk2 := G1.out.soft; have kk3 := G2.out.1; clear hown1 hgrow1 hat1 c1)
          | (gi_at_builtin; refine wpListIn_append_own_at _ rfl _ _ 58 rfl n₁ 9 i0 _ 1 16 Try.underlying58 hi hz0 hz1 hz2 rfl (by decide) vv _ _ rfl (G2.out.2.2.alloc _) ⟨_, 0, none⟩ 1 1 [.string x.val] rfl rfl (one_cell _ _ (by simp [World.setCell]) _ _) (by simp [Value.oneCell']) (by have := HPL.out; unfold maxLen; omega) (by have := HPL.out; omega) (by have := HNW.out; have := G1.out.size; simp at *; omega) ?_; intro vv' w4 hown4 hgrow4 _ hat4; obtain ⟨g4, cap4, rfl⟩ := ownsRow_succ hown4; have G3 := Lib.hid (grow_one G2.out.2.1 G2.out.2.2 hgrow4 hown4 hat4 HH.out.2.2.2.2.2.2.1 HH.out.2.2.2.2.2.2.2.1); have kk4 := G3.out.cell; have kk5 := G3.out.soft; clear hown4 hgrow4 hat4 kk1 kk2 kk3))
        obtain ⟨h1, h2, h3⟩ := two_step HH.out.1 HH.out.2.1 (by omega) HH.out.2.2.1 HH.out.2.2.2.1 HH.out.2.2.2.2.1 G1.out G3.out G2.out.2.2
        exact ⟨h3, h2, h1, HH.out.2.2.2.2.2.2.2.2.trans h2 (fun _ hx => Or.inl hx)⟩
      case done =>
        rintro D xs W hD rfl ⟨⟨vk, vv, hk, hv, rk, rv, hap⟩, ht⟩ hK
        obtain ⟨ak, ck, ek⟩ := row_any rk
        obtain ⟨av, cv, ev⟩ := row_any rv
        subst ek ev
        have HR0 : Hid (w.heap.size < wx.heap.size) := Lib.hid (by have := HR1.out; have := D3.out.size; have := E9.out.size; omega)
        have hnR : ¬ Wr w.heap.size := by
          rw [HWR.out]
          have h1 := HR0.out
          have h2 := HSZ.out
          have h3 := HN1.out
          rintro (e | e | e) <;> omega
        have hb11 : Below w1.heap.size w1 w11 := D3.out.trans (((E9.out.trans (F11.out.mono E9.out.size))).mono D3.out.size)
        have hR : W.heap[w.heap.size]? = w1.heap[w.heap.size]? := (ht.block _ (by have := HR1.out; have := hb11.size; omega) hnR).trans (hb11.block _ HR1.out)
        have CR : Hid (W.cell? ⟨w.heap.size, 0, none⟩ = some (.bool false) ∧ W.frozen? ⟨w.heap.size, 0, none⟩ = false) := Lib.hid ⟨(World.cell?_of_block (a := ⟨w.heap.size, 0, none⟩) hR).trans C1.out.1, (World.frozen?_of_block (a := ⟨w.heap.size, 0, none⟩) hR).trans C1.out.2⟩
        have hWb : ∀ b, b < wx.heap.size → ¬ Wr b := fun b hb => by
          rw [HWR.out]
          have h2 := HSZ.out
          have h3 := HN1.out
          rintro (e | e | e) <;> omega
        have HLB : Hid (ListS W Lb sb rb) := Lib.hid ((MB.out.lies.below (E9.out.trans (F11.out.mono E9.out.size))).turned ht (fun b hb => hWb b (by have := MB.out.lies.own_lt hb; have := E9.out.size; omega)))
        have HLA : Hid (ListS W La xs ra) := Lib.hid ((MA3.out.lies.below (E9.out.trans (F11.out.mono E9.out.size))).turned ht (fun b hb => hWb b (by have := MA3.out.lies.own_lt hb; have := E9.out.size; omega)))
        have HBW : Hid (Below w.heap.size w W) := Lib.hid ((B3.out.trans ((E9.out.trans (F11.out.mono E9.out.size)).mono B3.out.size)).trans (ht.to_below (by have := hb11.size; have := HR1.out; omega) (fun k hk => by
          rcases Nat.lt_or_ge k w.heap.size with h | h
          · exact absurd hk (hWb k (by have := HR0.out; omega))
          · exact h)))
        have HTW := Lib.hid (And.intro hk (And.intro hv (And.intro rk (And.intro rv hap))))
        have HDK := Lib.hid hK
        have HDD := Lib.hid hD
        have HWW : Hid (w11.heap.size ≤ W.heap.size) := Lib.hid ht.size
        clear hk hv rk rv hap ht hK hD hnR hR hWb hb11
        go_wp2_with fail
        obtain ⟨Wn, hWn⟩ : ∃ Wn, Wn = W.alloc (.cells #[.int .i64 0] 3) := ⟨_, rfl⟩
        rw [← hWn]
        have HWN := Lib.hid hWn
        have hbn : Below W.heap.size W Wn := by rw [hWn]; exact (Below.refl _ W).alloc (Nat.le_refl _) _
        have hsn : Wn.heap.size = W.heap.size + 1 := by rw [hWn]; simp
        have BN := Lib.hid hbn
        have HSN := Lib.hid hsn
        clear hWn hbn hsn
        refine (from_any (some ⟨Lb.b, 0, none⟩) ⟨#[]⟩ Wn (by decide)).mono ?_
        rintro e w12 ⟨rfl, hb12, _, _⟩
        have F12 := Lib.hid hb12
        clear hb12
        go_wp2_with fail
        refine (from_any (some ⟨Lb.b, 0, none⟩) ⟨#[]⟩ w12 (by decide)).mono ?_
        rintro e w13 ⟨rfl, hb13, hbx1, hbx2⟩
        have F13 := Lib.hid hb13
        have BX2 := Lib.hid (And.intro hbx1 hbx2)
        clear hb13 hbx1 hbx2
        go_wp2_with fail
        obtain ⟨n₂, hn2⟩ : ∃ n₂, n₂ = w13.heap.size := ⟨_, rfl⟩
        obtain ⟨Wr2, hWr2⟩ : ∃ Wr2 : Nat → Prop, Wr2 = fun k => k = W.heap.size ∨ n₂ ≤ k := ⟨_, rfl⟩
        have HN2 := Lib.hid hn2
        have HWR2 := Lib.hid hWr2
        have FN13 : Hid (Below Wn.heap.size Wn w13) := Lib.hid (F12.out.trans (F13.out.mono F12.out.size))
        have FW13 : Hid (Below W.heap.size W w13) := Lib.hid (BN.out.trans (FN13.out.mono BN.out.size))
        have hs13 : w12.heap.size < w13.heap.size := World.block_lt_of_cell? _ _ BX2.out.1
        have hs12 := F12.out.size
        have HB2 : Hid (¬ Wr2 w12.heap.size) := Lib.hid (by
          have := HSN.out
          rw [HWR2.out]
          rintro (e | e) <;> omega)
        have hlow : ∀ b, b < W.heap.size → ¬ Wr2 b := fun b hb => by
          have := HSN.out
          rw [HWR2.out]
          rintro (e | e) <;> omega
        have HLOW := Lib.hid hlow
        have HWU2 : Hid (∀ k, w13.heap.size ≤ k → Wr2 k) := Lib.hid (fun k hk => by rw [HWR2.out]; exact Or.inr (by rw [HN2.out]; exact hk))
        have HWB2 : Hid (Wr2 W.heap.size) := Lib.hid (by rw [HWR2.out]; exact Or.inl rfl)
        have HC0 : Hid (w13.cell? ⟨W.heap.size, 0, none⟩ = some (.int .i64 (([] : List (It ByteArray)).length : Int)) ∧ w13.frozen? ⟨W.heap.size, 0, none⟩ = false) := Lib.hid (by
          have hb := FN13.out.block W.heap.size (by rw [HSN.out]; omega)
          rw [HWN.out, heap_alloc_new] at hb
          exact ⟨by rw [cell_of hb]; rfl, unfrozen_of hb 0⟩)
        clear hn2 hWr2 hs13 hs12 hlow
        refine range_two (n := 20) 26 27 (by decide) (lb := #[.pointer (some ⟨w12.heap.size, 0, none⟩), .pointer (some ⟨w12.heap.size + 1, 0, none⟩)]) rfl
          (from_stops 19 (by decide) w12.heap.size (w12.heap.size + 1) Wr2 Lb sb rb ⟨#[]⟩ [] sb rfl seek_all w13 BX2.out.1 BX2.out.2 HB2.out (HLB.out.below FW13.out) (fun b hb => HLOW.out b (HLB.out.own_lt hb))) turnsK_t (turnsK_b HWU2.out)
          (fun pre W2 => (W2.cell? ⟨W.heap.size, 0, none⟩ = some (.int .i64 (pre.length : Int)) ∧ W2.frozen? ⟨W.heap.size, 0, none⟩ = false) ∧ (kv pre = (kv xs).take pre.length ∧ pre.length ≤ xs.length) ∧ Turns Wr2 w13 W2)
          (fun c pre W2 => c = .ret ∧ ¬ kv pre <+: kv xs)
          (OwnFrom.and (Go.Own.from (fun s A B row hs hg hr => ⟨cell_kept hs.1 hg hr, (frozen_kept hs.1 hg hr).trans hs.2⟩) _) (OwnFrom.and (fun _ _ _ _ hs _ _ => hs) (turns_from HWU2.out))) (fun _ _ _ _ _ hs _ _ => hs) ⟨HC0.out, ⟨rfl, Nat.zero_le _⟩, Turns.refl _ _⟩ ?assign2 ?body2 ?done2 ?stop2
        case assign2 =>
          intro lp x W2 K hK
          unfold roundTmps at hK
          simp only [List.setIfInBounds_toArray, List.set_cons_succ, List.set_cons_zero] at hK ⊢
          gi_wp2
          exact hK
        case stop2 =>
          rintro D2 c pre W2 _ hpre ⟨rfl, hnot⟩ _
          refine absurd ?_ hnot
          rw [HKV.out]
          exact hpre.map _
        case body2 =>
          rintro lp pre x W2 ⟨⟨cn, fn⟩, ⟨hkv, hle⟩, ht⟩ hlt
          have hkb : ∀ b, b < W.heap.size → W2.heap[b]? = W.heap[b]? := fun b hb => (ht.block b (by have := FW13.out.size; omega) (HLOW.out b hb)).trans (FW13.out.block b hb)
          have c1 : W2.cell? ⟨wx.heap.size, 0, none⟩ = some (.slice ak xs.length ck) := by rw [cell_of ((hkb _ (heap_lt HTW.out.1)).trans HTW.out.1)]; rfl
          have c2 : W2.cell? ⟨wx.heap.size + 1, 0, none⟩ = some (.slice av xs.length cv) := by rw [cell_of ((hkb _ (heap_lt HTW.out.2.1)).trans HTW.out.2.1)]; rfl
          have hR := hkb w.heap.size (by have := HR0.out; have := heap_lt HTW.out.1; omega)
          have cR : W2.cell? ⟨w.heap.size, 0, none⟩ = some (.bool false) := (World.cell?_of_block (a := ⟨w.heap.size, 0, none⟩) hR).trans CR.out.1
          have fR : W2.frozen? ⟨w.heap.size, 0, none⟩ = false := (World.frozen?_of_block (a := ⟨w.heap.size, 0, none⟩) hR).trans CR.out.2
          have HT2 := Lib.hid ht
          have HKV2 := Lib.hid hkv
          unfold roundTmps
          simp only [List.setIfInBounds_toArray, List.set_cons_succ, List.set_cons_zero]
          by_cases hn : pre.length < xs.length
          · obtain ⟨y, hy⟩ : ∃ y, xs[pre.length]? = some y := ⟨xs[pre.length], List.getElem?_eq_getElem _⟩
            have r1 := ownsRow_frame HTW.out.2.2.1 (w' := W2) fun b hb => hkb b (ownsRow_lt HTW.out.2.2.1 hb)
            have r2 := ownsRow_frame HTW.out.2.2.2.1 (w' := W2) fun b hb => hkb b (ownsRow_lt HTW.out.2.2.2.1 hb)
            obtain ⟨g1, rfl, _, _, d1⟩ := (row_here r1).2 pre.length (.string (txt y.key)) (by unfold keyCells; rw [List.getElem?_map, hy]; rfl)
            obtain ⟨g2, rfl, _, _, d2⟩ := (row_here r2).2 pre.length (.string y.val) (by rw [List.getElem?_map, hy]; rfl)
            have hni : (pre.length : Int) < xs.length := by omega
            have HY := Lib.hid hy
            have HKY : Hid (∀ z, xs[pre.length]? = some z → z = y) := Lib.hid (fun z hz => Option.some.inj (hz.symm.trans hy))
            obtain ⟨m, hm⟩ : ∃ m, m = pre.length := ⟨_, rfl⟩
            rw [← hm] at cn d1 d2 hni
            have HM := Lib.hid hm
            have hmb : (m : Int) ≤ 1000 := by
              have h1 := HRA.out
              have h2 := HSML.out.1
              have h3 := HLA.out.kin.len
              omega
            have hwm : wrap64 ((m : Int) + 1) = (m : Int) + 1 := by unfold wrap64; omega
            clear r1 r2 hy hm hn hle hlt hkb hkv ht hR
            by_cases e1 : x.key = y.key
            · by_cases e2 : x.val = y.val
              · have HK := Lib.hid (kv_snoc HKV2.out HY.out e1 e2)
                rw [← e1] at d1
                rw [← e2] at d2
                have HLE : Hid ((pre ++ [x]).length ≤ xs.length) := Lib.hid (by have := (List.getElem?_eq_some_iff.1 HY.out).1; simp; omega)
                clear e1 e2
                gi_wp2
                have hml : wrap64 ((m : Int) + 1) = ((pre ++ [x]).length : Int) := by rw [List.length_append, ← HM.out, hwm]; rfl
                exact ⟨KeepsOthers.setCell _ _ _, Turns.of_setCell (P := Wr2) _ _ _ HWB2.out, ⟨by first | (rw [hml]; exact World.cell?_setCell_same' _ _ _ (by rw [cn]; rfl)) | (rw [← hml, hwm]; exact World.cell?_setCell_same' _ _ _ (by rw [cn]; rfl)) | exact World.cell?_setCell_same' _ _ _ (by rw [cn]; rfl), by rw [World.frozen?_setCell]; exact fn⟩, ⟨HK.out, HLE.out⟩, HT2.out.trans (Turns.of_setCell (P := Wr2) _ _ _ HWB2.out) (fun _ hx => Or.inl hx)⟩
              · have HNOT : Hid (¬ kv (pre ++ [x]) <+: kv xs) := Lib.hid (fun h => by
                  obtain ⟨z, hz, _, h4⟩ := kv_not h
                  rw [HKY.out z hz] at h4
                  exact e2 h4.symm)
                have hne : (x.val.toList == y.val.toList) = false := beq_false_of_ne fun e => e2 (str_eq e)
                have hne2 : ¬ x.val.toList = y.val.toList := fun e => e2 (str_eq e)
                rw [← e1] at d1
                clear e1 e2
                gi_wp2
                exact ⟨KeepsOthers.setCell _ _ _, rfl, HNOT.out⟩
            · have HNOT : Hid (¬ kv (pre ++ [x]) <+: kv xs) := Lib.hid (fun h => by
                obtain ⟨z, hz, h4, _⟩ := kv_not h
                rw [HKY.out z hz] at h4
                exact e1 h4.symm)
              have hne : ((txt x.key).toList == (txt y.key).toList) = false := by rw [txt_list, txt_list]; exact beq_false_of_ne e1
              have hne2 : ¬ (txt x.key).toList = (txt y.key).toList := by rw [txt_list, txt_list]; exact e1
              clear e1
              gi_wp2
              exact ⟨KeepsOthers.setCell _ _ _, rfl, HNOT.out⟩
          · have HNOT : Hid (¬ kv (pre ++ [x]) <+: kv xs) := Lib.hid (fun h => by
              obtain ⟨z, hz, _⟩ := kv_not h
              exact hn (List.getElem?_eq_some_iff.1 hz).1)
            have hni : (xs.length : Int) ≤ pre.length := by omega
            obtain ⟨m, hm⟩ : ∃ m, m = pre.length := ⟨_, rfl⟩
            rw [← hm] at cn hni
            have HM := Lib.hid hm
            clear hm hn hle hlt hkb hkv ht hR
            gi_wp2
            exact ⟨KeepsOthers.setCell _ _ _, rfl, HNOT.out⟩
        case done2 =>
          rintro D2 ys W2 hD2 rfl ⟨⟨cn, fn⟩, ⟨hkv, hle⟩, ht⟩ hK2
          have hkb : ∀ b, b < W.heap.size → W2.heap[b]? = W.heap[b]? := fun b hb => (ht.block b (by have := FW13.out.size; omega) (HLOW.out b hb)).trans (FW13.out.block b hb)
          have c1 : W2.cell? ⟨wx.heap.size, 0, none⟩ = some (.slice ak xs.length ck) := by rw [cell_of ((hkb _ (heap_lt HTW.out.1)).trans HTW.out.1)]; rfl
          have hR := hkb w.heap.size (by have := HR0.out; have := heap_lt HTW.out.1; omega)
          have cR : W2.cell? ⟨w.heap.size, 0, none⟩ = some (.bool false) := (World.cell?_of_block (a := ⟨w.heap.size, 0, none⟩) hR).trans CR.out.1
          have fR : W2.frozen? ⟨w.heap.size, 0, none⟩ = false := (World.frozen?_of_block (a := ⟨w.heap.size, 0, none⟩) hR).trans CR.out.2
          rw [← kv_len HKV.out] at cn
          have HD1 : Hid (W2.heap[D]? = some (.deferred (some []))) := Lib.hid ((hkb D (heap_lt HDK.out)).trans HDK.out)
          have HK2 := Lib.hid hK2
          have HBW2 : Hid (Below w.heap.size w W2) := Lib.hid (HBW.out.trans ((FW13.out.mono HBW.out.size).trans (ht.to_below (by have := FW13.out.size; have := HBW.out.size; omega) (fun k hk => by
            rcases Nat.lt_or_ge k w.heap.size with h | h
            · exact absurd hk (HLOW.out k (by have := HBW.out.size; omega))
            · exact h))))
          have HLA2 := Lib.hid (HLA.out.frame fun b hb => hkb b (HLA.out.own_lt hb))
          have CL := Lib.hid (len_any (HLA2.out.drew))
          rw [← HLA.out.kin.len] at CL
          have hr0 : w.heap.size < W2.drew.heap.size := by
            have := HBW2.out.size
            have h1 := HBW.out.size
            have h2 := HR0.out
            have h3 := heap_lt HTW.out.1
            have h4 := ht.size
            have h5 := FW13.out.size
            simp
            omega
          clear hkv hle ht hK2 hkb hR
          go_wp2_with fail
          go_still_tail 11, (by kernel_rfl)
          still_call CL.out
          repeat still_step
          refine wpStill_nil ?_
          change wpList _ _ _ _ _ W2.drew
          have cR5 : W2.drew.cell? ⟨w.heap.size, 0, none⟩ = some (.bool false) := cR
          have fR5 : W2.drew.frozen? ⟨w.heap.size, 0, none⟩ = false := fR
          have HB5 : Hid (Below w.heap.size w W2.drew) := Lib.hid HBW2.out.drew
          have HD5 : Hid (W2.drew.heap[D]? = some (.deferred (some []))) := HD1
          have HK5 : Hid (W2.drew.heap[D2]? = some (.deferred (some []))) := HK2
          have HDD2 : Hid (w.heap.size < D ∧ w.heap.size < D2 ∧ D < D2) := Lib.hid (by
            have h6 := heap_lt HDK.out
            have h1 := HR0.out
            have h2 := heap_lt HTW.out.1
            have h3 := FW13.out.size
            have h4 := HDD.out
            have h5 := F11.out.size
            omega)
          generalize W2.drew = w5 at *
          clear cn fn c1 cR fR
          go_wp2_with fail
          refine (HAW.out _).mono ?_
          rintro e w6 ⟨rfl, hb6⟩
          have c6 := (hb6.cell (p := ⟨w.heap.size, 0, none⟩) hr0).trans cR5
          have f6 := (hb6.frozen (p := ⟨w.heap.size, 0, none⟩) hr0).trans fR5
          have HB6 := Lib.hid (Below.next HB5.out hb6)
          have HD6 : Hid (w6.heap[D]? = some (.deferred (some []))) := Lib.hid ((hb6.block _ (heap_lt HD5.out)).trans HD5.out)
          have HK6 : Hid (w6.heap[D2]? = some (.deferred (some []))) := Lib.hid ((hb6.block _ (heap_lt HK5.out)).trans HK5.out)
          clear hb6 cR5 fR5
          go_wp2_with fail
          have hk2 : (w6.setCell ⟨w.heap.size, 0, none⟩ (.bool true)).heap[D2]? = some (.deferred (some [])) := (setCell_kept _ _ _ (by have := HDD2.out.2; show D2 ≠ w.heap.size; omega)).trans HK6.out
          have hk1' : (w6.setCell ⟨w.heap.size, 0, none⟩ (.bool true)).heap[D]? = some (.deferred (some [])) := (setCell_kept _ _ _ (by have := HDD2.out.1; show D ≠ w.heap.size; omega)).trans HD6.out
          have hc7 := World.cell?_setCell_same' w6 ⟨w.heap.size, 0, none⟩ (.bool true) (by rw [c6]; rfl)
          have hb7 := HB6.out.setCell (p := ⟨w.heap.size, 0, none⟩) (Nat.le_refl _) (.bool true)
          generalize w6.setCell ⟨w.heap.size, 0, none⟩ (.bool true) = w7 at *
          have g2 := grownBy_putObj' w7 D2 (.deferred none)
          have hk1 : (w7.putObj D2 (.deferred none)).heap[D]? = some (.deferred (some [])) := (g2.block D (heap_lt hk1') (by have := HDD2.out.2.2; simp; omega)).trans hk1'
          have g1 := grownBy_putObj' (w7.putObj D2 (.deferred none)) D (.deferred none)
          have hc8 := cell_kept hc7 g2 (fun r e => by cases e; exact ⟨_, hk2, rfl⟩)
          have hc9 := cell_kept hc8 g1 (fun r e => by cases e; exact ⟨_, hk1, rfl⟩)
          refine ⟨by simp, .inl ⟨_, _, rfl, run_takeDeferred hk2, ⟨by simp, .inl ⟨_, _, rfl, run_takeDeferred hk1, ?_⟩⟩⟩⟩
          refine ⟨.bool true, ?_, rfl, (hb7.trans (belowK_b (w := w) (Nat.le_refl _) w7 D2 _ _ (by have := HDD2.out.2.1; omega) hk2 rfl rfl)).trans (belowK_b (w := w) (Nat.le_refl _) _ D _ _ (by have := HDD2.out.1; omega) hk1 rfl rfl)⟩
          simp [results, Try.results6, go_sem, hc9]

theorem same_walk2 (ao : Option Addr) (n cap : Nat) (l : List Ac) (K : ByteArray) (one two : Int) (w : World) (h : SeesA w (.slice ao n cap) l) (_ : K.size ≤ 9223372036854775807) {P1 P2 : Prop} (_ : P1) (_ : P2) :
    Calls Try.prog 6 #[.slice ao n cap, .string K, .int .i64 one, .int .i64 two] w fun e w' => e = .returned (.bool true) ∧ Below w.heap.size w w' := same_walk ao n cap l K one two w h

end Go.Proofs.Ytghfgffgcknbmaa.Sk
