package journal_test

import (
	"bytes"
	"reflect"
	"slices"
	"testing"

	"stowage/api"
	"stowage/journal"
)

// What stands in spare room.
const spare = 0xAB

var (
	sparePart   = api.PartSize{Number: 77, Size: 78}
	spareRecord = api.Record{ID: "spare", Time: 79, Mark: true}
)

// roomyList is a copy of a list with marked room behind it.
func roomyList[T any](l []T, mark T) []T {
	room := slices.Concat(l, slices.Repeat([]T{mark}, 80))
	return room[:len(l):len(room)]
}

// behind is the spare room of a list.
func behind[T any](l []T) []T { return l[:cap(l)][len(l):] }

// fill writes all over a list and its spare room.
func fill[T any](l []T, v T) {
	l = l[:cap(l)]
	for i := range l {
		l[i] = v
	}
}

func roomyRecord(r api.Record) api.Record {
	r.Parts = roomyList(r.Parts, sparePart)
	return r
}

// roomy is a journal all of whose lists have spare room, which is marked.
func roomy(j api.Journal) api.Journal {
	j.Records = roomyList(j.Records, spareRecord)
	for i, r := range j.Records {
		j.Records[i] = roomyRecord(r)
	}
	return j
}

func untouchedRecord(r, was api.Record) bool {
	room := behind(r.Parts)
	return sameRecord(r, was) && len(room) == 80 && slices.Equal(room, slices.Repeat([]api.PartSize{sparePart}, 80))
}

// untouched tells whether a journal is as it was, and its spare room, too.
func untouched(j, was api.Journal) bool {
	for i, r := range j.Records {
		if i >= len(was.Records) || !untouchedRecord(r, was.Records[i]) {
			return false
		}
	}
	room := behind(j.Records)
	return same(j, was) && len(room) == 80 && reflect.DeepEqual(room, slices.Repeat([]api.Record{spareRecord}, 80))
}

// fillRecord and fillJournal write all over what may be reached from one.
func fillRecord(r api.Record) { fill(r.Parts, api.PartSize{Number: -7, Size: -8}) }

func fillJournal(j api.Journal) {
	for _, r := range j.Records[:cap(j.Records)] {
		fillRecord(r)
	}
	fill(j.Records, api.Record{ID: "filled"})
}

// handsOut tells whether spare room that was handed in can be reached from a journal.
func handsOut(j api.Journal) bool {
	for _, r := range behind(j.Records) {
		if r.ID == spareRecord.ID {
			return true
		}
	}
	return slices.ContainsFunc(j.Records, handsOutParts)
}

func handsOutParts(r api.Record) bool { return slices.Contains(behind(r.Parts), sparePart) }

// everyJournal are journals that may be, and such that may not, but for those of very many records.
func everyJournal() []api.Journal {
	all := []api.Journal{{}, {Records: []api.Record{}}}
	for _, list := range []map[string]api.Journal{right(), wrong()} {
		for _, j := range list {
			if len(j.Records) < 70 {
				all = append(all, j)
			}
		}
	}
	return all
}

// everyRecord are records that may be, of IDs that are there and of one that is not, and such that may not be.
func everyRecord() []api.Record {
	return []api.Record{parted("v0"), parted("v2"), parted("v3"), parted("v63"), parted("new"), mark("v1", 3), plain("v2"), {}, {Parts: make([]api.PartSize, 40)}}
}

// journalCalls are the calls that answer a journal, by a journal and a record.
func journalCalls() map[string]func(j api.Journal, r api.Record) api.Journal {
	return map[string]func(j api.Journal, r api.Record) api.Journal{
		"Copy":   func(j api.Journal, r api.Record) api.Journal { return journal.Copy(j) },
		"Add":    func(j api.Journal, r api.Record) api.Journal { got, _ := journal.Add(j, r); return got },
		"Remove": func(j api.Journal, r api.Record) api.Journal { got, _ := journal.Remove(j, r.ID); return got },
	}
}

// recordCalls are those that answer a record.
func recordCalls() map[string]func(j api.Journal, r api.Record) api.Record {
	return map[string]func(j api.Journal, r api.Record) api.Record{
		"Find":   func(j api.Journal, r api.Record) api.Record { got, _, _ := journal.Find(j, r.ID); return got },
		"Newest": func(j api.Journal, r api.Record) api.Record { got, _ := journal.Newest(j); return got },
	}
}

func TestCopy(t *testing.T) {
	for _, was := range append(everyJournal(), of(7, 3000)) {
		j := level(was)
		c := journal.Copy(j)
		if !same(c, was) || !same(j, was) || !journal.Same(c, j) {
			t.Fatalf("Copy: %s; want %s", short(c), short(was))
		}
		for i := range c.Records {
			c.Records[i].Time = -9
			for p := range c.Records[i].Parts {
				c.Records[i].Parts[p].Size = -9
			}
		}
		if !same(j, was) {
			t.Errorf("a change of a copy changes what it was made of: %s", short(was))
		}
		c = journal.Copy(j)
		fillJournal(j)
		if !same(c, was) {
			t.Errorf("a copy follows what it was made of: %s", short(was))
		}
	}
}

// TestNothingIsChanged: what is handed in is as it was behind each call, its spare room, too.
func TestNothingIsChanged(t *testing.T) {
	for _, was := range everyJournal() {
		for _, wasRecord := range everyRecord() {
			j, r := roomy(was), roomyRecord(wasRecord)
			for _, call := range journalCalls() {
				call(j, r)
			}
			for _, call := range recordCalls() {
				call(j, r)
			}
			journal.Check(j)
			journal.Bytes(j)
			journal.Same(j, roomy(was))
			journal.Same(roomy(of(7, 3)), j)
			if !untouched(j, was) || !untouchedRecord(r, wasRecord) {
				t.Errorf("something was changed: %s, %s", short(j), short(r))
			}
		}
	}
}

// TestSpareRoomIsNotRead: with marked room behind each list all is answered as without.
func TestSpareRoomIsNotRead(t *testing.T) {
	for _, was := range everyJournal() {
		j := roomy(was)
		askCheck(t, "spare room", j)
		wantSame(t, "spare room", j, was, true)
		for _, r := range everyRecord() {
			askAdd(t, "spare room", j, roomyRecord(r))
		}
		askAll(t, "spare room", j, spareRecord)
		// The list ends ahead of records of its own.
		if len(was.Records) > 1 {
			shorter := level(was)
			shorter.Records = shorter.Records[:1]
			askAll(t, "a list that goes on in its room", shorter, mark(was.Records[1].ID, 1))
		}
	}
}

// TestAnswersAreTheirOwn: what is written into one later is not seen in what was handed in, nor the other way round.
func TestAnswersAreTheirOwn(t *testing.T) {
	for _, was := range everyJournal() {
		for _, wasRecord := range everyRecord() {
			for what, call := range journalCalls() {
				j, r := roomy(was), roomyRecord(wasRecord)
				one, two := call(j, r), call(j, r)
				wanted := level(one)
				if handsOut(one) {
					t.Errorf("%s hands out spare room", what)
				}
				fillJournal(one)
				if !untouched(j, was) || !untouchedRecord(r, wasRecord) || !same(two, wanted) {
					t.Errorf("%s: what it answers is not its own: %s", what, short(was))
				}
				fillJournal(j)
				fillRecord(r)
				if !same(two, wanted) {
					t.Errorf("%s: what it answers follows what was handed in: %s", what, short(was))
				}
			}
			for what, call := range recordCalls() {
				j, r := roomy(was), roomyRecord(wasRecord)
				one, two := call(j, r), call(j, r)
				wanted := levelRecord(one)
				if handsOutParts(one) {
					t.Errorf("%s hands out spare room", what)
				}
				fillRecord(one)
				if !untouched(j, was) || !sameRecord(two, wanted) {
					t.Errorf("%s: what it answers is not its own: %s", what, short(was))
				}
				fillJournal(j)
				if !sameRecord(two, wanted) {
					t.Errorf("%s: what it answers follows what was handed in: %s", what, short(was))
				}
			}
		}
	}
}

// TestNoTwoListsShare: what is written into one list of an answer, or behind it, is not seen in another list of it.
func TestNoTwoListsShare(t *testing.T) {
	j := api.Journal{Seq: 9}
	// All records are handed in with one list of parts.
	parts := roomyList(parted("a").Parts, sparePart)
	for i := range 5 {
		r := parted(id(i))
		r.Parts = parts
		j.Records = append(j.Records, r)
	}
	all := journalCalls()
	all["Read"] = func(j api.Journal, r api.Record) api.Journal {
		got, _ := journal.Read(bytesOf(j))
		return got
	}
	for what, call := range all {
		for _, name := range []string{"v0", "v2", "v4", "new"} {
			r := parted(name)
			r.Parts = parts
			got := call(j, r)
			for i := range got.Records {
				wanted := level(got)
				fillRecord(got.Records[i])
				_ = append(got.Records[i].Parts, api.PartSize{Number: -1})
				got.Records[i].Parts = wanted.Records[i].Parts
				if !same(got, wanted) {
					t.Errorf("%s: two records share their parts", what)
				}
			}
		}
	}
}

func TestBytesAreTheirOwn(t *testing.T) {
	for _, was := range everyJournal() {
		j := roomy(was)
		one, _ := journal.Bytes(j)
		two, err := journal.Bytes(j)
		wanted := slices.Clone(two)
		fill(one, 9)
		fillJournal(j)
		wantBytes(t, "bytes", two, err, wanted, err)
		again, _ := journal.Bytes(was)
		wantBytes(t, "bytes again", again, err, wanted, err)
	}
}

// TestReadIsItsOwn: the bytes and their room stay as they are, and what is read does not follow them.
func TestReadIsItsOwn(t *testing.T) {
	inputs := [][]byte{nil, {0}, make([]byte, 40), []byte("SJ1"), sealed([]byte("SJ1"))}
	for _, j := range everyJournal() {
		b := bytesOf(j)
		inputs = append(inputs, b, b[:len(b)-1], append(slices.Clone(b), 1))
	}
	for _, was := range inputs {
		b := roomyList(was, spare)
		askRead(t, "spare room", b)
		one, err := journal.Read(b)
		two, _ := journal.Read(b)
		wanted, wantedErr := modelRead(was)
		fillJournal(one)
		if !bytes.Equal(b, was) || bytes.Count(behind(b), []byte{spare}) != len(behind(b)) {
			t.Errorf("bytes were changed: %x", was)
		}
		wantJournal(t, "two that are read", two, err, wanted, wantedErr)
		fill(b, 9)
		wantJournal(t, "what is read follows its bytes", two, err, wanted, wantedErr)
	}
}
