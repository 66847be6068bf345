package store

import (
	"errors"
	"maps"
	"slices"

	"palinode/api"
	"palinode/merge"
	"palinode/pick"
	"palinode/table"
	"palinode/version"
	"palinode/wal"
)

// How tables are built: entries of a block, bits of the filter for each key.
const (
	blockEntries = 16
	filterBits   = 10
)

const (
	overhead  = 16    // what an entry counts for beside the bytes of its key and its value
	tableSize = 20000 // from so much on, the entries of a compaction go into several tables
)

// The stages of a work.
const (
	logging  = iota // the new log is made: here a flush begins
	writing         // a table is made: here a compaction begins
	changing        // nothing is left to be made, and the version changes
)

// work is a flush or a compaction in progress.
type work struct {
	stage  int           // at which it goes on
	level  int           // of the new tables: that of a flush is 0, that of a compaction is not
	pieces [][]api.Entry // of the tables that are still to be made
	log    *wal.Log      // of a flush: the new one
	edit   api.Edit      // what becomes of the version
}

// Step goes on with the work in the background, and tells whether there was any.
func (s *Store) Step() (bool, error) {
	if s.Dead() {
		return false, fault(api.ErrDown)
	}
	if s.work == nil {
		if err := s.begin(); err != nil {
			return false, err
		}
	}
	if s.work == nil {
		return false, nil
	}
	if err := s.proceed(s.work); err != nil {
		return false, s.giveUp(err)
	}
	return true, nil
}

// begin begins a work, if there is something to do.
func (s *Store) begin() error {
	job, found := pick.Pick(s.version)
	flush := s.memory.Len() > 0 && (s.wanted || s.log.Room() < logRoom/2)
	// A flush that lacks room gets it from a compaction, if from anything.
	if flush && !(s.cramped && found) {
		s.work = &work{pieces: [][]api.Entry{s.memory.All()}, edit: api.Edit{DropLogs: s.version.Logs, Seq: s.seq}}
		return nil
	}
	s.cramped = false
	if !found {
		return nil
	}
	drop := slices.Concat(job.In, job.Under)
	pieces, err := s.compacted(drop, job.Bottom)
	if err != nil {
		return below(err)
	}
	s.work = &work{stage: writing, level: job.Level + 1, pieces: pieces, edit: api.Edit{Drop: drop}}
	if len(pieces) == 0 {
		s.work.stage = changing
	}
	return nil
}

// compacted is the entries of some tables that are still needed, cut into those of new tables.
func (s *Store) compacted(ids []int, bottom bool) ([][]api.Entry, error) {
	var lists [][]api.Entry
	for _, id := range ids {
		lists = append(lists, s.tables[id].All())
	}
	all, err := merge.Merge(lists)
	if err != nil {
		return nil, err
	}
	l, err := merge.Fold(all, slices.Sorted(maps.Keys(s.held)), bottom)
	if err != nil {
		return nil, err
	}
	size := 0
	for _, e := range l {
		size += len(e.Key) + len(e.Value) + overhead
	}
	tables := max(1, min(1+size/tableSize, s.spare()))
	return pick.Cut(l, 1+len(l)/tables)
}

// proceed goes on with a work from its stage on. Of a compaction, it makes one table at a time; a flush has one table, and so is done at once: no batch comes between its table and its log.
func (s *Store) proceed(w *work) error {
	switch w.stage {
	case logging:
		if err := s.makeLog(w); err != nil {
			return err
		}
		fallthrough
	case writing:
		if err := s.makeTable(w); err != nil {
			return err
		}
		if len(w.pieces) > 0 {
			return nil
		}
		fallthrough
	case changing:
		if err := s.change(w.edit); err != nil {
			return err
		}
		if w.log != nil {
			s.log, s.memory, s.wanted = w.log, newMemory(), false
		}
		if err := s.sweep(); err != nil {
			return err
		}
		s.work = nil
	}
	return nil
}

// makeLog makes the log that a flush begins.
func (s *Store) makeLog(w *work) error {
	id, err := s.makeFile(logSectors)
	if err != nil {
		return err
	}
	if w.log, err = wal.Lay(s.volume, id); err != nil {
		return below(err)
	}
	w.edit.AddLogs = []int{id}
	return nil
}

// makeTable makes a table of the next piece.
func (s *Store) makeTable(w *work) error {
	b, err := table.Build(w.pieces[0], blockEntries, filterBits)
	switch {
	case errors.Is(err, api.ErrLong):
		// So many versions of few keys are held that they have no room in a table.
		return fault(api.ErrFull)
	case err != nil:
		return below(err)
	}
	t, err := table.Open(b)
	if err != nil {
		return below(err)
	}
	id, err := s.makeFile(sectors(len(b)))
	if err != nil {
		return err
	}
	if err := s.fill(id, b); err != nil {
		return below(err)
	}
	s.tables[id] = t
	w.edit.Add = append(w.edit.Add, api.Meta{ID: id, Level: w.level, Min: t.Min(), Max: t.Max(), Bytes: len(b)})
	w.pieces = w.pieces[1:]
	return nil
}

// makeFile makes a file of a log or a table, and leaves the volume room for one more: without that, a manifest that is full could not be made anew, and nothing could be changed anymore.
func (s *Store) makeFile(many int) (int, error) {
	if s.spare() < 1 {
		return 0, fault(api.ErrFull)
	}
	id, err := s.volume.Make(many)
	if err != nil {
		return 0, below(err)
	}
	return id, nil
}

// spare is how many more files the logs and tables may have.
func (s *Store) spare() int { return api.MaxFiles - 1 - len(s.volume.Root().Files) }

// fill writes b to a file, from its first sector on, for good.
func (s *Store) fill(id int, b string) error {
	for at := 0; b != ""; at++ {
		n := min(len(b), api.Sector)
		if err := s.volume.Write(id, at, b[:n]); err != nil {
			return err
		}
		b = b[n:]
	}
	return s.volume.Sync()
}

// change makes the version what e makes of it, on the disk first. If the manifest has no room for e, another one takes its place.
func (s *Store) change(e api.Edit) error {
	next, err := version.Apply(s.version, e)
	if err != nil {
		return below(err)
	}
	b, err := version.Encode(e)
	if err != nil {
		return below(err)
	}
	if len(b) > s.manifest.Room() {
		id, err := s.volume.Make(manifestSectors)
		if err != nil {
			return below(err)
		}
		return s.establish(id, next)
	}
	if err := s.manifest.Append(b); err != nil {
		return below(err)
	}
	s.version = next
	return nil
}

// establish makes a file the manifest, and v, as its first record, the version. Both change when the volume points to the file, and not before.
func (s *Store) establish(id int, v api.Version) error {
	b, err := version.Encode(version.Whole(v))
	if err != nil {
		return below(err)
	}
	manifest, err := wal.Lay(s.volume, id)
	if err != nil {
		return below(err)
	}
	if err := manifest.Append(b); err != nil {
		return below(err)
	}
	if err := s.volume.Point(id); err != nil {
		return below(err)
	}
	s.manifest, s.version = manifest, v
	return nil
}

// giveUp ends a work that can't go on for an error. Nothing of it stays, unless the power has failed: then it goes when the store is opened.
func (s *Store) giveUp(err error) error {
	s.cramped = s.work.level == 0
	s.work = nil
	if s.Dead() {
		return err
	}
	if swept := s.sweep(); swept != nil {
		return swept
	}
	return err
}

// sweep deletes the files that neither belong to the version nor are the manifest.
func (s *Store) sweep() error {
	r := s.volume.Root()
	keep := append(version.Live(s.version), r.Current)
	var ids []int
	for _, f := range r.Files {
		if !slices.Contains(keep, f.ID) {
			ids = append(ids, f.ID)
			delete(s.tables, f.ID)
		}
	}
	return below(s.volume.Drop(ids))
}
