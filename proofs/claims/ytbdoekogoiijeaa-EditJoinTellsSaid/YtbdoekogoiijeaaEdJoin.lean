/- Joined edits, plainly, and what edits do to tables. No function is named. -/
import Derived.Test.YtbdoekogoiijeaaEdMath
namespace Go.Proofs.Ytbdoekogoiijeaa.Ed

def tbNum (t : Tbl) : Nat := t.n
/-- The edit by which a number goes last; 0: by none, or by the first one. -/
def ld (es : List Edt) (n : Nat) : Nat := ((List.range es.length).filter (fun i => decide (n ∈ (es.getD i edd).drop))).getLastD 0
def coming (es : List Edt) : List Tbl := (List.range es.length).flatMap (fun i => (es.getD i edd).add.filter (fun t => decide (ld es t.n ≤ i)))
/-- Has a number come by edits, and not gone? -/
def came : List Edt → Nat → Bool := fun es n => es.foldl (fun a e => (a && !decide (n ∈ e.drop)) || decide (n ∈ e.add.map tbNum)) false
def going (es : List Edt) : List Nat := (List.range es.length).flatMap (fun i => (es.getD i edd).drop.filter (fun n => !came (es.take i) n))
def tops (f : Edt → Nat) (es : List Edt) : Nat := es.foldl (fun a e => max a (f e)) 0
def join (es : List Edt) : Edt := ⟨coming es, going es, tops Edt.log es, tops Edt.seq es, tops Edt.next es⟩
/-- Two edits joined. -/
def two (a b : Edt) : Edt := ⟨a.add.filter (fun t => !decide (t.n ∈ b.drop)) ++ b.add, a.drop ++ b.drop.filter (fun n => !decide (n ∈ a.add.map tbNum)), max a.log b.log, max a.seq b.seq, max a.next b.next⟩

theorem flatMap_congr {α β : Type} {f g : α → List β} : ∀ {l : List α}, (∀ x ∈ l, f x = g x) → l.flatMap f = l.flatMap g
  | [], _ => rfl
  | x :: l, h => by rw [List.flatMap_cons, List.flatMap_cons, h x (List.mem_cons_self ..), flatMap_congr (fun y hy => h y (List.mem_cons_of_mem _ hy))]
theorem snoc_ind {α : Type} {P : List α → Prop} (h0 : P []) (h1 : ∀ l x, P l → P (l ++ [x])) (l : List α) : P l := by
  have key : ∀ m : List α, P m.reverse := by
    intro m
    induction m with
    | nil => exact h0
    | cons x m ih => rw [List.reverse_cons]; exact h1 _ _ ih
  have := key l.reverse
  rwa [List.reverse_reverse] at this
theorem getD_left {α : Type} {l r : List α} {d : α} {i : Nat} (h : i < l.length) : (l ++ r).getD i d = l.getD i d := by simp [List.getElem?_append_left h]
theorem getD_end {α : Type} (l : List α) (x d : α) : (l ++ [x]).getD l.length d = x := by simp
theorem ld_nil (n : Nat) : ld [] n = 0 := rfl
theorem ld_snoc (es : List Edt) (e : Edt) (n : Nat) : ld (es ++ [e]) n = if n ∈ e.drop then es.length else ld es n := by
  unfold ld
  rw [List.length_append, List.length_singleton, List.range_succ, List.filter_append]
  have h1 : (List.range es.length).filter (fun i => decide (n ∈ ((es ++ [e]).getD i edd).drop)) = (List.range es.length).filter (fun i => decide (n ∈ (es.getD i edd).drop)) := by
    refine List.filter_congr fun i hi => ?_
    rw [getD_left (List.mem_range.1 hi)]
  rw [h1]
  by_cases h : n ∈ e.drop
  · rw [if_pos h]; simp [h, List.getLastD_eq_getLast?]
  · rw [if_neg h]; simp [h]
theorem ld_lt (es : List Edt) (n : Nat) : ld es n = 0 ∨ ld es n < es.length := by
  unfold ld
  rw [List.getLastD_eq_getLast?]
  cases h : ((List.range es.length).filter (fun i => decide (n ∈ (es.getD i edd).drop))).getLast? with
  | none => exact Or.inl rfl
  | some x =>
    right
    have := List.mem_of_getLast? h
    rw [List.mem_filter, List.mem_range] at this
    exact this.1
theorem came_snoc (es : List Edt) (e : Edt) (n : Nat) : came (es ++ [e]) n = ((came es n && !decide (n ∈ e.drop)) || decide (n ∈ e.add.map tbNum)) := by
  unfold came; rw [List.foldl_append]; rfl
theorem tops_snoc (f : Edt → Nat) (es : List Edt) (e : Edt) : tops f (es ++ [e]) = max (tops f es) (f e) := by
  unfold tops; rw [List.foldl_append]; rfl
theorem coming_snoc (es : List Edt) (e : Edt) : coming (es ++ [e]) = (coming es).filter (fun t => !decide (t.n ∈ e.drop)) ++ e.add := by
  unfold coming
  rw [List.length_append, List.length_singleton, List.range_succ, List.flatMap_append, List.flatMap_singleton, getD_end]
  have h2 : e.add.filter (fun t => decide (ld (es ++ [e]) t.n ≤ es.length)) = e.add := by
    rw [List.filter_eq_self]
    intro t _
    rw [ld_snoc]
    have := ld_lt es t.n
    split
    · simp
    · simp; omega
  rw [h2, List.filter_flatMap]
  congr 1
  refine flatMap_congr fun i hi => ?_
  have hi' := List.mem_range.1 hi
  rw [getD_left hi', List.filter_filter]
  refine List.filter_congr fun t _ => ?_
  rw [ld_snoc]
  by_cases h : t.n ∈ e.drop
  · rw [if_pos h]; simp [h]; omega
  · rw [if_neg h]; simp [h]
theorem going_snoc (es : List Edt) (e : Edt) : going (es ++ [e]) = going es ++ e.drop.filter (fun n => !came es n) := by
  unfold going
  rw [List.length_append, List.length_singleton, List.range_succ, List.flatMap_append, List.flatMap_singleton, getD_end, List.take_left]
  congr 1
  refine flatMap_congr fun i hi => ?_
  have hi' := List.mem_range.1 hi
  rw [getD_left hi', List.take_append_of_le_length (Nat.le_of_lt hi')]
/-- The numbers that came are those of the tables that come. -/
theorem came_coming (es : List Edt) : ∀ n, came es n = decide (n ∈ (coming es).map tbNum) := by
  induction es using snoc_ind with
  | h0 => intro n; rfl
  | h1 es e ih =>
    intro n
    rw [came_snoc, ih, coming_snoc, List.map_append]
    rw [Bool.eq_iff_iff]
    simp only [Bool.or_eq_true, Bool.and_eq_true, Bool.not_eq_true', decide_eq_true_eq, decide_eq_false_iff_not, List.mem_append, List.mem_map, List.mem_filter]
    constructor
    · rintro (⟨⟨t, h1, rfl⟩, h2⟩ | h)
      · exact Or.inl ⟨t, ⟨h1, h2⟩, rfl⟩
      · exact Or.inr h
    · rintro (⟨t, ⟨h1, h2⟩, rfl⟩ | h)
      · exact Or.inl ⟨⟨t, h1, rfl⟩, h2⟩
      · exact Or.inr h
theorem join_nil : join [] = edd := rfl
theorem join_snoc (es : List Edt) (e : Edt) : join (es ++ [e]) = two (join es) e := by
  unfold join two
  simp only [coming_snoc, going_snoc, tops_snoc, came_coming]
theorem two_first (e : Edt) : two edd e = e := by
  have e2 : e.drop.filter (fun _ => true) = e.drop := List.filter_eq_self.2 (fun _ _ => rfl)
  cases e
  simp [two, edd]

/-- A table's place by its number, and what an edit does to tables: one number, one table at a time. -/
def out (l : List Tbl) (n : Nat) : Option (List Tbl) := if n ∈ l.map tbNum then some (l.eraseP (fun t => decide (t.n = n))) else none
def outs : List Tbl → List Nat → Option (List Tbl)
  | l, [] => some l
  | l, n :: ns => match out l n with
    | none => none
    | some l' => outs l' ns
def ins : List Tbl → List Tbl → Option (List Tbl)
  | l, [] => some l
  | l, t :: ts => if t.n ∈ l.map tbNum then none else ins (l ++ [t]) ts
def done (l : List Tbl) (e : Edt) : Option (List Tbl) := match outs l e.drop with
  | none => none
  | some l' => ins l' e.add

def Uniq (l : List Tbl) : Prop := (l.map tbNum).Nodup
def gone (l : List Tbl) (ds : List Nat) : List Tbl := l.filter (fun t => !decide (t.n ∈ ds))

theorem Uniq.filter {l : List Tbl} (h : Uniq l) (p : Tbl → Bool) : Uniq (l.filter p) := List.Nodup.sublist ((List.filter_sublist (p := p)).map _) h
theorem erase_gone : ∀ {l : List Tbl} (n : Nat), Uniq l → l.eraseP (fun t => decide (t.n = n)) = gone l [n]
  | [], n, _ => rfl
  | t :: l, n, h => by
    have h1 : t.n ∉ l.map tbNum := (List.nodup_cons.1 h).1
    have h2 : Uniq l := (List.nodup_cons.1 h).2
    by_cases e : t.n = n
    · subst e
      have : gone l [t.n] = l := List.filter_eq_self.2 (fun x hx => by
        have hne : x.n ≠ t.n := fun e => h1 (List.mem_map.2 ⟨x, hx, e⟩)
        simp [hne])
      show _ = gone (t :: l) [t.n]
      have e2 : gone (t :: l) [t.n] = gone l [t.n] := by simp [gone]
      rw [e2, this]
      simp
    · have e2 : gone (t :: l) [n] = t :: gone l [n] := by simp [gone, e]
      rw [e2, ← erase_gone n h2, List.eraseP_cons_of_neg (by simp [e])]
theorem gone_gone (l : List Tbl) (a b : List Nat) : gone (gone l a) b = gone l (a ++ b) := by
  unfold gone
  rw [List.filter_filter]
  refine List.filter_congr fun t _ => ?_
  rw [Bool.eq_iff_iff]
  simp only [Bool.and_eq_true, Bool.not_eq_true', decide_eq_false_iff_not, List.mem_append]
  exact ⟨fun h => fun hm => hm.elim h.2 h.1, fun h => ⟨fun hb => h (Or.inr hb), fun ha => h (Or.inl ha)⟩⟩
theorem mem_gone {l : List Tbl} {ds : List Nat} {n : Nat} : n ∈ (gone l ds).map tbNum ↔ n ∈ l.map tbNum ∧ n ∉ ds := by
  unfold gone
  simp only [List.mem_map, List.mem_filter, Bool.not_eq_true', decide_eq_false_iff_not]
  constructor
  · rintro ⟨t, ⟨h1, h2⟩, rfl⟩; exact ⟨⟨t, h1, rfl⟩, h2⟩
  · rintro ⟨⟨t, h1, rfl⟩, h2⟩; exact ⟨t, ⟨h1, h2⟩, rfl⟩
theorem outs_iff : ∀ {ds : List Nat} {l m : List Tbl}, Uniq l → (outs l ds = some m ↔ (ds.Nodup ∧ ∀ n ∈ ds, n ∈ l.map tbNum) ∧ m = gone l ds)
  | [], l, m, _ => by
    have : gone l [] = l := List.filter_eq_self.2 (fun _ _ => by simp)
    rw [this]
    simp [outs, eq_comm]
  | d :: ds, l, m, h => by
    rw [outs, out]
    by_cases hd : d ∈ l.map tbNum
    · rw [if_pos hd]
      simp only
      have hu : Uniq (gone l [d]) := h.filter _
      rw [erase_gone d h, outs_iff hu, gone_gone]
      constructor
      · rintro ⟨⟨h1, h2⟩, rfl⟩
        refine ⟨⟨List.nodup_cons.2 ⟨fun hm => ?_, h1⟩, fun n hn => ?_⟩, rfl⟩
        · exact (mem_gone.1 (h2 d hm)).2 (List.mem_singleton.2 rfl)
        · rcases List.mem_cons.1 hn with rfl | hn
          · exact hd
          · exact (mem_gone.1 (h2 n hn)).1
      · rintro ⟨⟨h1, h2⟩, rfl⟩
        obtain ⟨h3, h4⟩ := List.nodup_cons.1 h1
        exact ⟨⟨h4, fun n hn => mem_gone.2 ⟨h2 n (List.mem_cons_of_mem _ hn), fun e => h3 (List.mem_singleton.1 e ▸ hn)⟩⟩, rfl⟩
    · rw [if_neg hd]
      constructor
      · intro h; cases h
      · rintro ⟨⟨_, h2⟩, _⟩; exact absurd (h2 d (List.mem_cons_self ..)) hd
theorem ins_iff : ∀ {ts l m : List Tbl}, ins l ts = some m ↔ ((ts.map tbNum).Nodup ∧ ∀ n ∈ ts.map tbNum, n ∉ l.map tbNum) ∧ m = l ++ ts
  | [], l, m => by simp [ins, eq_comm]
  | t :: ts, l, m => by
    rw [ins]
    by_cases hd : t.n ∈ l.map tbNum
    · rw [if_pos hd]
      constructor
      · intro h; cases h
      · rintro ⟨⟨_, h2⟩, _⟩; exact absurd hd (h2 t.n (by simp [tbNum]))
    · rw [if_neg hd, ins_iff (ts := ts)]
      simp only [List.map_append, List.map_cons, List.map_nil, List.mem_append, List.mem_singleton, List.append_assoc, List.singleton_append]
      constructor
      · rintro ⟨⟨h1, h2⟩, rfl⟩
        refine ⟨⟨List.nodup_cons.2 ⟨fun hm => h2 _ hm (Or.inr rfl), h1⟩, fun n hn => ?_⟩, rfl⟩
        rcases List.mem_cons.1 hn with rfl | hn
        · exact hd
        · exact fun h => h2 n hn (Or.inl h)
      · rintro ⟨⟨h1, h2⟩, rfl⟩
        obtain ⟨h3, h4⟩ := List.nodup_cons.1 h1
        exact ⟨⟨h4, fun n hn => fun h => h.elim (h2 n (List.mem_cons_of_mem _ hn)) (fun e => h3 (e ▸ hn))⟩, rfl⟩
theorem done_iff {l m : List Tbl} {e : Edt} (h : Uniq l) : done l e = some m ↔ ((e.drop.Nodup ∧ ∀ n ∈ e.drop, n ∈ l.map tbNum) ∧ ((e.add.map tbNum).Nodup ∧ ∀ n ∈ e.add.map tbNum, n ∉ (gone l e.drop).map tbNum)) ∧ m = gone l e.drop ++ e.add := by
  unfold done
  cases ho : outs l e.drop with
  | none =>
    simp only
    constructor
    · intro h; cases h
    · rintro ⟨⟨h1, _⟩, _⟩
      rw [(outs_iff h).2 ⟨h1, rfl⟩] at ho
      cases ho
  | some l' =>
    obtain ⟨h1, rfl⟩ := (outs_iff h).1 ho
    simp only
    rw [ins_iff]
    exact ⟨fun ⟨a, b⟩ => ⟨⟨h1, a⟩, b⟩, fun ⟨⟨_, a⟩, b⟩ => ⟨a, b⟩⟩
theorem done_uniq {l m : List Tbl} {e : Edt} (h : Uniq l) (hd : done l e = some m) : Uniq m := by
  obtain ⟨⟨_, h1, h2⟩, rfl⟩ := (done_iff h).1 hd
  unfold Uniq
  rw [List.map_append, List.nodup_append]
  exact ⟨h.filter _, h1, fun a ha b hb e => h2 b hb (e ▸ ha)⟩
/-- One for two: P13.4. -/
theorem done_two {l m k : List Tbl} {a b : Edt} (h : Uniq l) (ha : done l a = some m) (hb : done m b = some k) : done l (two a b) = some k := by
  have hm := done_uniq h ha
  obtain ⟨⟨⟨a1, a2⟩, a3, a4⟩, rfl⟩ := (done_iff h).1 ha
  obtain ⟨⟨⟨b1, b2⟩, b3, b4⟩, rfl⟩ := (done_iff hm).1 hb
  have key : ∀ n, n ∈ l.map tbNum → n ∉ a.drop → (n ∉ a.drop ++ b.drop.filter (fun n => !decide (n ∈ a.add.map tbNum)) ↔ n ∉ b.drop) := by
    intro n hn hna
    have hnc : n ∉ a.add.map tbNum := fun hc => a4 n hc (mem_gone.2 ⟨hn, hna⟩)
    rw [List.mem_append, List.mem_filter]
    simp only [Bool.not_eq_true', decide_eq_false_iff_not]
    exact ⟨fun h hb => h (Or.inr ⟨hb, hnc⟩), fun h hc => hc.elim hna (fun hc => h hc.1)⟩
  have eg : gone l (a.drop ++ b.drop.filter (fun n => !decide (n ∈ a.add.map tbNum))) = gone (gone l a.drop) b.drop := by
    rw [gone_gone]
    unfold gone
    refine List.filter_congr fun t ht => ?_
    have htn : t.n ∈ l.map tbNum := List.mem_map.2 ⟨t, ht, rfl⟩
    rw [Bool.eq_iff_iff]
    simp only [Bool.not_eq_true', decide_eq_false_iff_not]
    by_cases hta : t.n ∈ a.drop
    · simp [hta]
    · rw [key t.n htn hta]; simp [hta]
  have es : gone (gone l a.drop ++ a.add) b.drop = gone (gone l a.drop) b.drop ++ a.add.filter (fun t => !decide (t.n ∈ b.drop)) := by
    unfold gone; rw [List.filter_append]
  rw [es] at b4 ⊢
  rw [List.map_append] at b4
  refine (done_iff h).2 ⟨⟨⟨?_, ?_⟩, ?_, ?_⟩, ?_⟩
  · show (a.drop ++ b.drop.filter _).Nodup
    rw [List.nodup_append]
    refine ⟨a1, b1.sublist List.filter_sublist, fun x hx y hy e => ?_⟩
    subst e
    rw [List.mem_filter] at hy
    obtain ⟨hy1, hy2⟩ := hy
    simp only [Bool.not_eq_true', decide_eq_false_iff_not] at hy2
    have := b2 x hy1
    rw [List.map_append, List.mem_append] at this
    rcases this with h3 | h3
    · exact (mem_gone.1 h3).2 hx
    · exact hy2 h3
  · intro n hn
    rcases List.mem_append.1 hn with hn | hn
    · exact a2 n hn
    · rw [List.mem_filter] at hn
      obtain ⟨hy1, hy2⟩ := hn
      simp only [Bool.not_eq_true', decide_eq_false_iff_not] at hy2
      have := b2 n hy1
      rw [List.map_append, List.mem_append] at this
      exact this.elim (fun h3 => (mem_gone.1 h3).1) (fun h3 => absurd h3 hy2)
  · show ((a.add.filter _ ++ b.add).map tbNum).Nodup
    rw [List.map_append, List.nodup_append]
    refine ⟨a3.sublist (List.filter_sublist.map _), b3, fun x hx y hy e => ?_⟩
    subst e
    refine b4 x hy ?_
    exact List.mem_append.2 (Or.inr hx)
  · show ∀ n ∈ (a.add.filter _ ++ b.add).map tbNum, n ∉ (gone l (a.drop ++ _)).map tbNum
    rw [eg]
    intro n hn
    rw [List.map_append, List.mem_append] at hn
    rcases hn with hn | hn
    · intro hc
      have h1 := (mem_gone.1 hc).1
      obtain ⟨t, ht, rfl⟩ := List.mem_map.1 hn
      exact a4 _ (List.mem_map.2 ⟨t, (List.mem_filter.1 ht).1, rfl⟩) h1
    · exact fun hc => b4 n hn (List.mem_append.2 (Or.inl hc))
  · show _ = gone l (a.drop ++ _) ++ (a.add.filter _ ++ b.add)
    rw [eg, List.append_assoc]

/-- Edits, one behind the other. -/
def dones : List Tbl → List Edt → Option (List Tbl)
  | l, [] => some l
  | l, e :: es => match done l e with
    | none => none
    | some m => dones m es
theorem dones_snoc (e : Edt) : ∀ (es : List Edt) (l : List Tbl), dones l (es ++ [e]) = match dones l es with
    | none => none
    | some m => done m e
  | [], l => by simp only [List.nil_append, dones]; cases done l e <;> rfl
  | x :: es, l => by
    rw [List.cons_append, dones, dones]
    cases done l x with
    | none => rfl
    | some m => exact dones_snoc e es m
theorem dones_uniq : ∀ {es : List Edt} {l m : List Tbl}, Uniq l → dones l es = some m → Uniq m
  | [], l, m, h, hd => by simp only [dones, Option.some.injEq] at hd; subst hd; exact h
  | e :: es, l, m, h, hd => by
    rw [dones] at hd
    cases hx : done l e with
    | none => rw [hx] at hd; cases hd
    | some k => rw [hx] at hd; exact dones_uniq (done_uniq h hx) hd
/-- One for many. -/
theorem done_join {l : List Tbl} (h : Uniq l) : ∀ {es : List Edt} {m : List Tbl}, dones l es = some m → done l (join es) = some m := by
  intro es
  induction es using snoc_ind with
  | h0 =>
    intro m hd
    simp only [dones, Option.some.injEq] at hd
    subst hd
    rw [join_nil, done_iff h]
    have : gone l [] = l := List.filter_eq_self.2 (fun _ _ => by simp)
    simp [edd, this]
  | h1 es e ih =>
    intro m hd
    rw [dones_snoc] at hd
    rw [join_snoc]
    cases hx : dones l es with
    | none => rw [hx] at hd; cases hd
    | some k => rw [hx] at hd; exact done_two h (ih hx) hd

end Go.Proofs.Ytbdoekogoiijeaa.Ed
