package store

import (
	"errors"
	"slices"
	"strings"

	"palinode/api"
	"palinode/block"
	"palinode/disk"
	"palinode/table"
	"palinode/version"
	"palinode/volume"
	"palinode/wal"
)

// Open is the store that is on a disk.
func Open(d *disk.Disk) (*Store, error) {
	v, err := volume.Open(d)
	if err != nil {
		return nil, below(err)
	}
	s := empty(v)
	if err := s.load(); err != nil {
		return nil, err
	}
	if err := s.tidy(); err != nil {
		return nil, err
	}
	return s, nil
}

// load reads the store that is on the volume. It writes nothing: until all is read, it may be that there is no store, and then the volume must stay as it is.
func (s *Store) load() error {
	edits, err := s.records(s.volume.Root().Current, manifestSectors)
	if err != nil {
		return err
	}
	for _, b := range edits {
		e, err := version.Decode(b)
		if err != nil {
			return unfit(err)
		}
		if s.version, err = version.Apply(s.version, e); err != nil {
			return unfit(err)
		}
	}
	if len(s.version.Logs) == 0 {
		return fault(api.ErrForm)
	}
	for _, m := range s.version.Tables {
		if err := s.loadTable(m); err != nil {
			return err
		}
	}
	s.seq = s.version.Seq
	for _, id := range s.version.Logs {
		if err := s.loadLog(id); err != nil {
			return err
		}
	}
	return nil
}

// loadTable opens a table of the version, which must be as the version says.
func (s *Store) loadTable(m api.Meta) error {
	b, err := s.read(m.ID, 0, m.Bytes)
	if err != nil {
		return err
	}
	t, err := table.Open(b)
	if err != nil {
		return unfit(err)
	}
	newer := func(e api.Entry) bool { return e.Seq > s.version.Seq }
	if t.Min() != m.Min || t.Max() != m.Max || slices.ContainsFunc(t.All(), newer) {
		return fault(api.ErrForm)
	}
	s.tables[m.ID] = t
	return nil
}

// loadLog puts the batches of a log into memory. One of them may be in the tables, too, but none may lack between these and the logs.
func (s *Store) loadLog(id int) error {
	batches, err := s.records(id, logSectors)
	if err != nil {
		return err
	}
	for _, b := range batches {
		batch, err := block.Decode(b)
		if err != nil {
			return unfit(err)
		}
		other := func(e api.Entry) bool { return e.Seq != batch[0].Seq }
		if len(batch) == 0 || slices.ContainsFunc(batch, other) || batch[0].Seq > s.seq+1 {
			return fault(api.ErrForm)
		}
		s.remember(batch)
	}
	return nil
}

// records is what the log in a file of that many sectors holds. It is wal's Open without the writes.
func (s *Store) records(id, many int) ([]string, error) {
	if !slices.ContainsFunc(s.volume.Root().Files, func(f api.File) bool { return f.ID == id && f.Many == many }) {
		return nil, fault(api.ErrNone)
	}
	var l []string
	for at := 0; at < many; {
		head, err := s.read(id, at, api.Sector)
		if err != nil {
			return nil, err
		}
		at++
		size, err := wal.ReadMark(head, id, len(l))
		if err != nil || sectors(size) > many-at {
			break
		}
		b, err := s.read(id, at, size)
		if err != nil {
			return nil, err
		}
		l = append(l, b)
		at += sectors(size)
	}
	return l, nil
}

// read is so many bytes of a file, from a sector on.
func (s *Store) read(id, at, size int) (string, error) {
	var b strings.Builder
	for b.Len() < size {
		piece, err := s.volume.Read(id, at)
		if err != nil {
			return "", unfit(err)
		}
		b.WriteString(piece)
		at++
	}
	return b.String()[:size], nil
}

// unfit is an error of a lower layer at what should be a store: as one of the store, if Open has it, and else that there is no store.
func unfit(err error) error {
	switch {
	case errors.Is(err, api.ErrDown), errors.Is(err, api.ErrNone), errors.Is(err, api.ErrForm):
		return below(err)
	}
	return fault(api.ErrForm)
}

// tidy makes a volume from which a store was read one that the store can go on with.
func (s *Store) tidy() (err error) {
	if _, s.manifest, err = wal.Open(s.volume, s.volume.Root().Current); err != nil {
		return below(err)
	}
	last := s.version.Logs[len(s.version.Logs)-1]
	if _, s.log, err = wal.Open(s.volume, last); err != nil {
		return below(err)
	}
	return s.sweep()
}
