package store

import (
	"espalier/api"
	"espalier/object"
)

// Get: P7.3. It answers a copy, so that nobody can change what is kept by its id.
func (s *Store) Get(id api.Id) (api.Object, api.Errno) {
	o, err := s.find(id)
	if err != api.OK {
		return nil, err
	}
	return object.Copy(o), api.OK
}

// Blob: P7.3.
func (s *Store) Blob(id api.Id) (api.Blob, api.Errno) { return asBlob(s.Get(id)) }

// Tree: P7.3.
func (s *Store) Tree(id api.Id) (api.Tree, api.Errno) { return asTree(s.Get(id)) }

// Commit: P7.3.
func (s *Store) Commit(id api.Id) (api.Commit, api.Errno) { return asCommit(s.Get(id)) }

// Bytes: P7.3.
func (s *Store) Bytes(id api.Id) ([]byte, api.Errno) {
	o, err := s.find(id)
	if err != api.OK {
		return nil, err
	}
	return object.Encode(o)
}

// find answers the object that is kept itself.
func (s *Store) find(id api.Id) (api.Object, api.Errno) {
	if s == nil {
		return nil, api.ErrNil
	}
	o, ok := s.objects[id]
	if !ok {
		return nil, api.ErrNone
	}
	return o, api.OK
}

func asBlob(o api.Object, err api.Errno) (api.Blob, api.Errno) {
	blob, ok := o.(api.Blob)
	return blob, kindError(ok, err)
}

func asTree(o api.Object, err api.Errno) (api.Tree, api.Errno) {
	tree, ok := o.(api.Tree)
	return tree, kindError(ok, err)
}

func asCommit(o api.Object, err api.Errno) (api.Commit, api.Errno) {
	commit, ok := o.(api.Commit)
	return commit, kindError(ok, err)
}

// kindError is the error of what was got by an error and asked for its kind: what was not got at all has no other kind.
func kindError(ok bool, err api.Errno) api.Errno {
	if err == api.OK && !ok {
		return api.ErrKind
	}
	return err
}
